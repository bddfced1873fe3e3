package place

import (
	"slices"

	"ignition/api"
)

// set is a set of hosts, bit by bit.
type set uint8

// all is the set of all hosts.
const all set = 1<<api.MaxHosts - 1

// only returns the set of one host.
func only(host int) set { return 1 << host }

// has reports whether a host is in a set.
func (s set) has(host int) bool { return s&only(host) != 0 }

// loads has what the tasks on each host need together.
type loads [api.MaxHosts]struct{ memory, time int }

// with returns the loads with one more task on a host.
func (l loads) with(t api.Task, host int) loads {
	l[host].memory += t.Memory
	l[host].time += t.Time
	return l
}

// take reports whether a host has what one more task on it needs.
func (l loads) take(t api.Task, host int, h api.Host) bool {
	return l[host].memory+t.Memory <= h.Memory && l[host].time+t.Time <= h.Time
}

// beginning has the hosts of the first tasks, and what they show.
type beginning struct {
	placed   int // how many tasks have a host
	hosts    [api.MaxTasks]int
	may      [api.MaxTasks]set // where each task may go after those before it
	loads    loads
	used     set // the hosts that have a task
	bound    int
	hopeless bool
	stuck    bool // a task that is left may go nowhere
}

// plan returns the hosts of the first tasks.
func (b beginning) plan() []int { return slices.Clone(b.hosts[:b.placed]) }

// isDead reports whether no plan that is allowed begins so.
func (b beginning) isDead() bool { return b.hopeless || b.stuck }

// begin returns a beginning.
func (c *chart) begin(hosts []int) beginning {
	b := beginning{may: c.may}
	b.stuck = slices.Contains(b.may[:len(c.Tasks)], 0)
	for _, h := range hosts {
		b = c.put(b, h)
	}
	return b
}

// put returns a beginning with the next task on a host.
func (c *chart) put(b beginning, host int) beginning {
	task := b.placed
	b.placed++
	b.hosts[task] = host
	for earlier, weight := range c.weight[task][:task] {
		b.bound += weight * c.times[b.hosts[earlier]][host]
	}
	if !b.used.has(host) {
		b.used |= only(host)
		b.bound += c.Hosts[host].Price
	}
	b.hopeless = b.hopeless || !b.may[task].has(host)
	if b.hopeless { // it stays so, wherever the tasks go that are left
		return b
	}
	b.loads = b.loads.with(c.Tasks[task], host)
	for later := b.placed; later < len(c.Tasks); later++ {
		b.may[later] &= c.lets[task][host][later]
		if !b.loads.take(c.Tasks[later], host, c.Hosts[host]) {
			b.may[later] &^= only(host)
		}
		b.stuck = b.stuck || b.may[later] == 0
	}
	return b
}
