package place_test

import (
	"testing"

	"ignition/api"
	"ignition/place"
)

// large returns a problem of the greatest size, in which a host has what so many tasks need.
func large(tasks int) api.Problem {
	p := plain(api.MaxTasks, api.MaxHosts)
	for i := range p.Tasks {
		p.Tasks[i].Memory, p.Tasks[i].Time = 3, 5
	}
	for i := range p.Hosts {
		p.Hosts[i].Memory, p.Hosts[i].Time, p.Hosts[i].Price, p.Hosts[i].Zone = 3*tasks, 5*tasks+4, 60-10*i, i
	}
	return p
}

// P3.5: Count of the greatest problems; how many plans there are is known.
func TestLargeCounts(t *testing.T) {
	want(t, "Count of all plans", countOf(large(10)), results(60466176, api.OK))
	want(t, "Count with 9 on a host", countOf(large(9)), results(60466176-6, api.OK))
	want(t, "Count with 8 on a host", countOf(large(8)), results(60466176-6-6*10*5, api.OK))
	want(t, "Count with 2 on a host", countOf(large(2)), results(4082400, api.OK))
	want(t, "Count with 1 on a host", countOf(large(1)), results(0, api.OK))
	p := bound(large(10), api.Bind{Kind: api.Apart, A: 9, B: 8}, api.Bind{Kind: api.Fixed, A: 0, B: 3}, api.Bind{Kind: api.Barred, A: 7, B: 0})
	want(t, "Count with bonds", countOf(p), results(60466176/6/6*5/6*5, api.OK))
}

// P3.4, P3.5: the greatest problems, whose best plans are clear.
func TestLargeBest(t *testing.T) {
	p := large(10)
	want(t, "Best", bestOf(p), results([]int{5, 5, 5, 5, 5, 5, 5, 5, 5, 5}, 10, api.OK))
	want(t, "Best with 9 on a host", bestOf(large(9)), results([]int{4, 4, 4, 4, 4, 4, 4, 4, 4, 5}, 30, api.OK))
	want(t, "Best with 2 on a host", bestOf(large(2)), results([]int{1, 1, 2, 2, 3, 3, 4, 4, 5, 5}, 150, api.OK))
	want(t, "Best with 1 on a host", bestOf(large(1)), results([]int{}, 0, api.ErrNone))
	l, e := place.List(large(9), api.MaxList)
	want(t, "List with 9 on a host", results(len(l), l[0], l[63], e), results(64, []int{4, 4, 4, 4, 4, 4, 4, 4, 4, 5}, []int{4, 4, 4, 5, 4, 4, 4, 4, 4, 4}, api.OK))
}

// P3.4: what costs something late does not hold the search up.
func TestLateCosts(t *testing.T) {
	p := plain(api.MaxTasks, api.MaxHosts)
	for i := range p.Hosts {
		p.Hosts[i].Zone = i / 3
	}
	for i := range 5 {
		p.Binds = append(p.Binds, api.Bind{Kind: api.Apart, A: 9 - i, B: i})
		p.Talks = append(p.Talks, api.Talk{A: i, B: 9 - i, Weight: 100})
	}
	want(t, "Best of tasks that are apart", bestOf(p), results([]int{0, 0, 0, 0, 0, 1, 1, 1, 1, 1}, 500, api.OK))
	for i := range p.Binds {
		p.Binds[i].Kind = api.Zoned
	}
	want(t, "Best of tasks in other zones", bestOf(p), results([]int{0, 0, 0, 0, 0, 3, 3, 3, 3, 3}, 1000, api.OK))
	want(t, "Prove", proveOf(p), results([]api.Leaf{}, api.ErrMany))
	plan, moved, e := place.Repair(p, []int{5, 5, 5, 5, 5, 5, 5, 5, 5, 5}, 5)
	want(t, "Repair", results(plan, moved, e), results([]int{0, 0, 0, 0, 0, 3, 3, 3, 3, 3}, 10, api.OK))
	plan, moved, e = place.Repair(p, []int{5, 5, 5, 5, 5, 1, 2, 1, 2, 1}, 0)
	want(t, "Repair of a plan that is good", results(plan, moved, e), results([]int{5, 5, 5, 5, 5, 1, 2, 1, 2, 1}, 0, api.OK))
}

// P3.4: a last task that all others talk with, or that has to go to a host with a high price.
func TestLastTask(t *testing.T) {
	p := large(9)
	for i := range p.Hosts {
		p.Hosts[i].Price = 0
	}
	for i := range 9 {
		p.Talks = append(p.Talks, api.Talk{A: 9, B: i, Weight: 1})
	}
	want(t, "Best with a hub", bestOf(p), results([]int{0, 0, 0, 0, 0, 0, 0, 0, 1, 0}, 2, api.OK))
	p = bound(large(9), api.Bind{Kind: api.Fixed, A: 9, B: 0}, api.Bind{Kind: api.Barred, A: 8, B: 5})
	p.Hosts[0].Price = api.MaxCost
	want(t, "Best with a price", bestOf(p), results([]int{0, 0, 0, 0, 0, 0, 0, 5, 0, 0}, api.MaxCost+10, api.OK))
}

// P3.8: a conflict of the last tasks, behind bonds that have nothing to do with it.
func TestLateConflict(t *testing.T) {
	p := plain(api.MaxTasks, api.MaxHosts)
	for i := range api.MaxBinds - 2 {
		p.Binds = append(p.Binds, api.Bind{Kind: api.Barred, A: i % 8, B: i % 5})
	}
	p = bound(p, api.Bind{Kind: api.Apart, A: 8, B: 9}, api.Bind{Kind: api.Together, A: 9, B: 8})
	want(t, "Conflict", conflictOf(p), results([]int{28, 29}, api.OK))
	q := plain(api.MaxTasks, api.MaxHosts)
	for a := 3; a < 10; a++ {
		for b := a + 1; b < 10; b++ {
			q = bound(q, api.Bind{Kind: api.Apart, A: a, B: b})
		}
	}
	l, e := place.Conflict(q)
	want(t, "Conflict of seven tasks on six hosts", results(len(l), e), results(21, api.OK))
}

// P3.6, P3.7: a proof of a problem of the greatest size.
func TestLargeProof(t *testing.T) {
	p := large(5)
	for i := range p.Tasks {
		p.Tasks[i].Level = 3
	}
	for i := range 2 {
		p.Hosts[4*i].Level = 3
	}
	leaves, e := place.Prove(p)
	want(t, "the error of Prove", e, api.OK)
	want(t, "Proves", provesOf(p, leaves, 80), results(true, api.OK))
	want(t, "Best", bestOf(p), results([]int{0, 0, 0, 0, 0, 4, 4, 4, 4, 4}, 80, api.OK))
	want(t, "Proves more", provesOf(p, leaves, 81), results(false, api.OK))
}
