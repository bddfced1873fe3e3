package place

import "ignition/api"

// chart is a problem with what a search asks it again and again.
type chart struct {
	api.Problem
	may    [api.MaxTasks]set                             // where each task may go by itself
	lets   [api.MaxTasks][api.MaxHosts][api.MaxTasks]set // where a task on a host lets each later one go
	alone  int                                           // the tasks from this one on have no bonds with each other
	weight [api.MaxTasks][api.MaxTasks]int               // how much a task and an earlier one exchange
	times  [api.MaxHosts][api.MaxHosts]int               // how often a weight counts between two hosts
	owed   [api.MaxTasks + 1]int                         // what the talks between tasks from this one on cost at least
}

// newChart returns the chart of a problem.
func newChart(p api.Problem) *chart {
	c := &chart{Problem: p}
	c.enterHosts()
	for _, b := range p.Binds {
		c.enterBond(b)
	}
	for _, t := range p.Talks {
		c.weight[max(t.A, t.B)][min(t.A, t.B)] += t.Weight
	}
	for task := len(p.Tasks) - 1; task >= 0; task-- {
		c.owed[task] = c.owed[task+1]
		for later := task + 1; later < len(p.Tasks); later++ {
			c.owed[task] += c.weight[later][task] * c.leastTimes(task, later)
		}
	}
	return c
}

// enterHosts enters where tasks may go if there are no bonds, and how hosts are apart.
func (c *chart) enterHosts() {
	for i, host := range c.Hosts {
		for t, task := range c.Tasks {
			if task.Level <= host.Level && (loads{}).take(task, i, host) {
				c.may[t] |= only(i)
			}
		}
		for k, other := range c.Hosts {
			if i != k {
				c.times[i][k]++
			}
			if host.Zone != other.Zone {
				c.times[i][k]++
			}
		}
	}
	for t := range c.lets {
		for i := range c.lets[t] {
			for later := range c.lets[t][i] {
				c.lets[t][i][later] = all
			}
		}
	}
}

// enterBond enters a bond.
func (c *chart) enterBond(b api.Bind) {
	switch b.Kind {
	case api.Barred:
		c.may[b.A] &^= only(b.B)
	case api.Fixed:
		c.may[b.A] &= only(b.B)
	default:
		earlier, later := min(b.A, b.B), max(b.A, b.B)
		c.alone = max(c.alone, earlier+1)
		for i := range c.Hosts {
			for k := range c.Hosts {
				if !c.keep(b.Kind, i, k) {
					c.lets[earlier][i][later] &^= only(k)
				}
			}
		}
	}
}

// keep reports whether tasks on two hosts keep a bond of a kind.
func (c *chart) keep(kind, a, b int) bool {
	switch kind {
	case api.Apart:
		return a != b
	case api.Together:
		return a == b
	}
	return c.Hosts[a].Zone != c.Hosts[b].Zone
}
