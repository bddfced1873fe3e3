package place_test

import (
	"math"
	"math/rand"
	"testing"

	"ignition/api"
	"ignition/place"
)

// P3.4, P3.5: the example of the chapter.
func TestExampleBest(t *testing.T) {
	p := example()
	want(t, "Best", bestOf(p), results([]int{1, 0}, 20, api.OK))
	want(t, "List", listOf(p, 5), results([][]int{{1, 0}}, api.OK))
	want(t, "Count", countOf(p), results(1, api.OK))
	p = bound(p, api.Bind{Kind: api.Together, A: 0, B: 1})
	want(t, "Best with Together", bestOf(p), results([]int{}, 0, api.ErrNone))
	want(t, "List with Together", listOf(p, 5), results([][]int{}, api.OK))
	want(t, "Count with Together", countOf(p), results(0, api.OK))
}

// P3.4, P3.5: without tasks there is one plan, without hosts none for any task.
func TestNothing(t *testing.T) {
	for hosts := range 3 {
		p := plain(0, hosts)
		want(t, "Best without tasks", bestOf(p), results([]int{}, 0, api.OK))
		want(t, "List without tasks", listOf(p, 64), results([][]int{{}}, api.OK))
		want(t, "Count without tasks", countOf(p), results(1, api.OK))
	}
	for tasks := 1; tasks < 4; tasks++ {
		p := plain(tasks, 0)
		want(t, "Best without hosts", bestOf(p), results([]int{}, 0, api.ErrNone))
		want(t, "List without hosts", listOf(p, 64), results([][]int{}, api.OK))
		want(t, "Count without hosts", countOf(p), results(0, api.OK))
	}
}

// P3.5: most is from 1 to MaxList; what is wrong with the problem comes first.
func TestMost(t *testing.T) {
	p := plain(4, 3)
	for most, e := range map[int]api.Errno{0: api.ErrArg, 1: api.OK, api.MaxList: api.OK, api.MaxList + 1: api.ErrArg, -1: api.ErrArg, math.MinInt: api.ErrArg, math.MaxInt: api.ErrArg} {
		l, got := place.List(p, most)
		want(t, "List", results(most, len(l), got), results(most, map[bool]int{true: most}[e == api.OK], e))
	}
	p.Tasks[0].Name = ""
	want(t, "List of what is wrong", listOf(p, 0), results([][]int{}, api.ErrTask))
}

// P3.4: of the plans of one cost the first one is that with the lowest host for the first task that differs.
func TestOrder(t *testing.T) {
	p := plain(3, 3)
	want(t, "List of equal plans", listOf(p, 5), results([][]int{{0, 0, 0}, {0, 0, 1}, {0, 0, 2}, {0, 1, 0}, {0, 1, 1}}, api.OK))
	p.Hosts[0].Price = 2
	p.Hosts[1].Price = 1
	p.Hosts[2].Price = 1
	want(t, "List of plans with prices", listOf(p, 10), results([][]int{
		{1, 1, 1}, {2, 2, 2}, // 1
		{0, 0, 0}, {1, 1, 2}, {1, 2, 1}, {1, 2, 2}, {2, 1, 1}, {2, 1, 2}, {2, 2, 1}, // 2
		{0, 0, 1}, // 3
	}, api.OK))
	want(t, "Best", bestOf(p), results([]int{1, 1, 1}, 1, api.OK))
}

// P3.4, P3.5, P3.11: random problems, by way of all plans.
func TestRandomBest(t *testing.T) {
	most, none := 0, 0
	randomly(t, 1500, func(r *rand.Rand, p api.Problem) {
		all := allowed(p)
		want(t, "Count", countOf(p), results(len(all), api.OK))
		n := 1 + r.Intn(api.MaxList)
		var first [][]int
		for _, a := range all[:min(n, len(all))] {
			first = append(first, a.plan)
		}
		want(t, "List", listOf(p, n), results(first, api.OK))
		if len(all) == 0 {
			none++
			want(t, "Best", bestOf(p), results([]int{}, 0, api.ErrNone))
			return
		}
		most = max(most, len(all))
		want(t, "Best", bestOf(p), results(all[0].plan, all[0].cost, api.OK))
		want(t, "Cost of Best", costOf(p, all[0].plan), results(all[0].cost, api.OK))
	})
	if most < 200 || none < 100 {
		t.Errorf("at most %d plans are allowed; %d problems have none", most, none)
	}
}

// P3.11: larger problems, whose plans are many.
func TestLargerBest(t *testing.T) {
	r := rand.New(rand.NewSource(2))
	for range 25 {
		p := randomProblem(r, 6, 5, r.Intn(5))
		for i := range p.Hosts {
			p.Hosts[i].Level = 2
		}
		for range 8 {
			a := r.Intn(6)
			p.Talks = append(p.Talks, api.Talk{A: a, B: (a + 1 + r.Intn(5)) % 6, Weight: r.Intn(100)})
		}
		all := allowed(p)
		want(t, "Count", countOf(p), results(len(all), api.OK))
		l, _ := place.List(p, api.MaxList)
		for i, plan := range l {
			want(t, "List", results(i, plan), results(i, all[i].plan))
		}
		want(t, "how many plans List has", len(l), min(len(all), api.MaxList))
		if len(all) > 0 {
			want(t, "Best", bestOf(p), results(all[0].plan, all[0].cost, api.OK))
		}
	}
}

// P3.5: Count of tasks that are bound to each other while others are free.
func TestCountBound(t *testing.T) {
	p := plain(7, 6)
	for i := range p.Hosts {
		p.Hosts[i].Zone = i / 2
	}
	want(t, "Count of Apart", countOf(bound(p, api.Bind{Kind: api.Apart, A: 6, B: 2})), results(6*5*6*6*6*6*6, api.OK))
	want(t, "Count of Together", countOf(bound(p, api.Bind{Kind: api.Together, A: 0, B: 6})), results(6*6*6*6*6*6, api.OK))
	want(t, "Count of Zoned", countOf(bound(p, api.Bind{Kind: api.Zoned, A: 3, B: 4})), results(6*4*6*6*6*6*6, api.OK))
	want(t, "Count of Barred", countOf(bound(p, api.Bind{Kind: api.Barred, A: 3, B: 4})), results(5*6*6*6*6*6*6, api.OK))
	want(t, "Count of Fixed", countOf(bound(p, api.Bind{Kind: api.Fixed, A: 3, B: 4})), results(6*6*6*6*6*6, api.OK))
	chain := bound(p, api.Bind{Kind: api.Apart, A: 0, B: 1}, api.Bind{Kind: api.Apart, A: 1, B: 2}, api.Bind{Kind: api.Apart, A: 2, B: 0}, api.Bind{Kind: api.Barred, A: 6, B: 0})
	want(t, "Count of three tasks apart", countOf(chain), results(6*5*4*6*6*6*5, api.OK))
}
