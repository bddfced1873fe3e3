package place

import (
	"cmp"
	"slices"

	"ignition/api"
)

// plan is a plan, or the first one with which a beginning can end: in how many tasks it differs from another one, and its cost.
type plan struct {
	moved, cost int
	hosts       [api.MaxTasks]int
}

// comparePlans compares plans: what differs in fewer tasks comes first, then what costs less.
func comparePlans(a, b plan) int {
	if a.moved != b.moved {
		return cmp.Compare(a.moved, b.moved)
	}
	if a.cost != b.cost {
		return cmp.Compare(a.cost, b.cost)
	}
	return slices.Compare(a.hosts[:], b.hosts[:])
}

// first keeps the first ones, in order, of the values that are added to it.
type first[T any] struct {
	most    int
	compare func(a, b T) int
	kept    []T
}

// takes reports whether a value is one of the first so far.
func (f *first[T]) takes(v T) bool {
	return len(f.kept) < f.most || f.compare(v, f.kept[f.most-1]) < 0
}

// add adds a value.
func (f *first[T]) add(v T) {
	i, _ := slices.BinarySearchFunc(f.kept, v, f.compare)
	f.kept = slices.Insert(f.kept, i, v)
	f.kept = f.kept[:min(f.most, len(f.kept))]
}

// firstPlans returns the first ones of all allowed plans, those first that differ from a plan (home), if there is one, in the fewest tasks.
func firstPlans(p api.Problem, most int, home []int) []plan {
	c := newChart(p)
	f := first[plan]{most: most, compare: comparePlans}
	stop := func(b beginning) bool { return b.isDead() || !f.takes(c.soonest(b, home)) }
	for b, whole := range c.ends(stop) {
		if whole {
			f.add(c.soonest(b, home))
		}
	}
	return f.kept
}

// soonest returns what no plan comes before that begins so, and is allowed; of a whole plan, the plan itself.
// The tasks that are left are put on the host 0, before which there is none.
func (c *chart) soonest(b beginning, home []int) plan {
	return plan{b.moved(home), b.bound + c.least(b), b.hosts}
}

// moved returns how many tasks are not at home, or may not go there.
func (b beginning) moved(home []int) int {
	n := 0
	for t, h := range home {
		if t < b.placed && b.hosts[t] != h || t >= b.placed && !b.may[t].has(h) {
			n++
		}
	}
	return n
}
