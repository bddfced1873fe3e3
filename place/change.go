package place

import (
	"slices"

	"ignition/api"
)

// without returns a problem without some of its bonds.
func without(p api.Problem, bonds ...int) api.Problem {
	var left []api.Bind
	for i, b := range p.Binds {
		if !slices.Contains(bonds, i) {
			left = append(left, b)
		}
	}
	p.Binds = left
	return p
}

// conflict returns bonds of a problem that allows no plan, none of which can be left out.
func conflict(p api.Problem) []int {
	var kept, gone []int
	for i := range p.Binds {
		if anyPlan(without(p, append(gone, i)...)) {
			kept = append(kept, i)
		} else {
			gone = append(gone, i)
		}
	}
	return kept
}

// barred returns a problem in which no task may go to a host.
func barred(p api.Problem, host int) api.Problem {
	p.Binds = slices.Clone(p.Binds)
	for t := range p.Tasks {
		p.Binds = append(p.Binds, api.Bind{Kind: api.Barred, A: t, B: host})
	}
	return p
}

// slowed returns a problem in which the tasks take n hundredths of their Time.
func slowed(p api.Problem, n int) api.Problem {
	p.Tasks = slices.Clone(p.Tasks)
	for i := range p.Tasks {
		p.Tasks[i].Time = (p.Tasks[i].Time*n + 99) / 100
	}
	return p
}

// bondsFirst returns a problem with the tasks in another order, those with the most bonds first, and without talks: as many plans are allowed, and a search finds sooner that there is none.
func bondsFirst(p api.Problem) api.Problem {
	bonds := make([]int, len(p.Tasks))
	for _, b := range p.Binds {
		bonds[b.A]++
		if isBetweenTasks(b) {
			bonds[b.B]++
		}
	}
	order := make([]int, len(p.Tasks))
	for t := range order {
		order[t] = t
	}
	slices.SortStableFunc(order, func(a, b int) int { return bonds[b] - bonds[a] })
	return reordered(p, order)
}

// reordered returns a problem with the tasks in another order, without talks.
func reordered(p api.Problem, order []int) api.Problem {
	r := api.Problem{Hosts: p.Hosts, Binds: slices.Clone(p.Binds)}
	for _, t := range order {
		r.Tasks = append(r.Tasks, p.Tasks[t])
	}
	for i, b := range p.Binds {
		r.Binds[i].A = slices.Index(order, b.A)
		if isBetweenTasks(b) {
			r.Binds[i].B = slices.Index(order, b.B)
		}
	}
	return r
}

// isBetweenTasks reports whether a bond binds two tasks.
func isBetweenTasks(b api.Bind) bool { return b.Kind != api.Barred && b.Kind != api.Fixed }
