package place_test

import (
	"math"
	"math/rand"
	"slices"
	"testing"

	"ignition/api"
)

// P3.2: the example of the chapter.
func TestExamplePlans(t *testing.T) {
	p := example()
	for _, c := range []struct {
		plan []int
		is   bool
		cost int
	}{{[]int{0, 0}, false, 10}, {[]int{1, 0}, true, 20}, {[]int{0, 1}, false, 20}, {[]int{1, 1}, false, 4}} {
		want(t, "Allowed", results(c.plan, allowedOf(p, c.plan)), results(c.plan, results(c.is, api.OK)))
		want(t, "Cost", results(c.plan, costOf(p, c.plan)), results(c.plan, results(c.cost, api.OK)))
	}
}

// P3.2: a plan has a host for each task, and no more. P3.3: a beginning has hosts for the first tasks.
func TestNoPlans(t *testing.T) {
	p := example()
	for _, c := range []struct {
		plan             []int
		isPlan, isBegins bool
	}{
		{nil, false, true}, {[]int{0}, false, true}, {[]int{1, 1}, true, true}, {[]int{1, 1, 1}, false, false},
		{[]int{2}, false, false}, {[]int{-1}, false, false}, {[]int{0, 2}, false, false}, {[]int{-1, 0}, false, false},
		{[]int{math.MinInt, 0}, false, false}, {[]int{0, math.MaxInt}, false, false}, {make([]int, 100000), false, false},
	} {
		short := c.plan[:min(len(c.plan), 3)]
		error := func(is bool) api.Errno { return map[bool]api.Errno{false: api.ErrPlan}[is] }
		for i, got := range [][]any{allowedOf(p, c.plan), costOf(p, c.plan), hopelessOf(p, c.plan), boundOf(p, c.plan)} {
			is := c.isPlan
			if i > 1 {
				is = c.isBegins
			}
			want(t, "the error", results(i, short, got[1]), results(i, short, error(is)))
			if !is {
				want(t, "the result", got[0], []any{false, 0, false, 0}[i])
			}
		}
	}
	want(t, "the plan without tasks", results(allowedOf(plain(0, 0), nil), costOf(plain(0, 2), nil)), results(results(true, api.OK), results(0, api.OK)))
	want(t, "a beginning without hosts", results(hopelessOf(plain(2, 0), nil), boundOf(plain(2, 0), nil)), results(results(false, api.OK), results(0, api.OK)))
	want(t, "a plan without hosts", results(allowedOf(plain(1, 0), nil), allowedOf(plain(1, 0), []int{0})), results(results(false, api.ErrPlan), results(false, api.ErrPlan)))
}

// P3.2: a host may have all that it has used, but no more.
func TestFullHosts(t *testing.T) {
	p := plain(3, 2)
	for i := range p.Tasks {
		p.Tasks[i].Memory, p.Tasks[i].Time, p.Tasks[i].Level = i+1, 10*i+1, i
	}
	p.Hosts[0].Memory, p.Hosts[0].Time, p.Hosts[0].Level = 6, 33, 2
	all := []int{0, 0, 0}
	want(t, "Allowed with full hosts", allowedOf(p, all), results(true, api.OK))
	for _, less := range []func(h *api.Host){func(h *api.Host) { h.Memory-- }, func(h *api.Host) { h.Time-- }, func(h *api.Host) { h.Level-- }} {
		q := copied(p)
		less(&q.Hosts[0])
		want(t, "Allowed with less", allowedOf(q, all), results(false, api.OK))
		want(t, "Hopeless with less", results(hopelessOf(q, all), hopelessOf(q, all[:2])), results(results(true, api.OK), results(false, api.OK)))
	}
	p.Tasks[2] = api.Task{Name: "c"}
	p.Hosts[0].Memory = 2
	want(t, "Allowed with a task that needs nothing", allowedOf(p, all), results(false, api.OK))
	want(t, "Allowed elsewhere", allowedOf(p, []int{1, 0, 0}), results(false, api.OK))
	p.Hosts[1] = api.Host{Name: "y", Memory: 1, Time: 1}
	want(t, "Allowed in the end", allowedOf(p, []int{1, 0, 0}), results(true, api.OK))
}

// P3.2, P3.3: what each kind of bond demands, of whichever task comes first.
func TestKindsOfBonds(t *testing.T) {
	p := plain(2, 3)
	p.Hosts[2].Zone = 7
	for _, c := range []struct {
		kind, b int
		keep    []int // the second host, if the first one is 0, 1 and 2
	}{
		{api.Apart, 0, []int{1, 2, 0, 2, 0, 1}},
		{api.Together, 0, []int{0, 1, 2}},
		{api.Zoned, 0, []int{2, 2, 0, 1}},
	} {
		var keep []int
		for first := range 3 {
			for second := range 3 {
				plan := []int{first, second}
				one := allowedOf(bound(p, api.Bind{Kind: c.kind, A: 0, B: 1}), plan)
				two := allowedOf(bound(p, api.Bind{Kind: c.kind, A: 1, B: 0}), plan)
				want(t, "the bond of A with B", one, two)
				if one[0] == true {
					keep = append(keep, second)
				}
			}
		}
		want(t, "what keeps a bond", results(c.kind, keep), results(c.kind, c.keep))
	}
	for h := range 3 {
		for _, b := range []int{0, 2} {
			bars, fixes := bound(p, api.Bind{Kind: api.Barred, A: 1, B: b}), bound(p, api.Bind{Kind: api.Fixed, A: 1, B: b})
			want(t, "Barred", allowedOf(bars, []int{b, h}), results(h != b, api.OK))
			want(t, "Fixed", allowedOf(fixes, []int{1, h}), results(h == b, api.OK))
			want(t, "a beginning that shows no bond", results(hopelessOf(bars, []int{b}), hopelessOf(fixes, []int{1})), results(results(false, api.OK), results(false, api.OK)))
		}
	}
}

// P3.2: a talk costs nothing on one host, its weight in one zone, and twice as much otherwise; talks of the same tasks add up.
func TestCosts(t *testing.T) {
	p := talking(plain(2, 3), api.Talk{A: 0, B: 1, Weight: 5}, api.Talk{A: 1, B: 0, Weight: 2})
	p.Hosts[2].Zone = 1
	for i := range p.Hosts {
		p.Hosts[i].Price = 100 * (i + 1)
	}
	for _, c := range []struct{ a, b, cost int }{{0, 0, 100}, {2, 2, 300}, {0, 1, 307}, {1, 0, 307}, {0, 2, 414}, {2, 1, 514}} {
		want(t, "Cost", results(c.a, c.b, costOf(p, []int{c.a, c.b})), results(c.a, c.b, results(c.cost, api.OK)))
	}
	want(t, "Bound of nothing", boundOf(p, nil), results(0, api.OK))
	want(t, "Bound of one task", boundOf(p, []int{2}), results(300, api.OK))
	big := plain(api.MaxTasks, api.MaxHosts)
	for i := range big.Hosts {
		big.Hosts[i].Zone, big.Hosts[i].Price = i, api.MaxCost
	}
	big.Talks = slices.Repeat([]api.Talk{{A: 0, B: 1, Weight: api.MaxCost}}, api.MaxTalks)
	want(t, "the greatest cost", costOf(big, []int{0, 1, 2, 3, 4, 5, 0, 0, 0, 0}), results(6*api.MaxCost+2*api.MaxTalks*api.MaxCost, api.OK))
}

// P3.2, P3.3: all plans and beginnings of random problems.
func TestRandomPlans(t *testing.T) {
	randomly(t, 1500, func(r *rand.Rand, p api.Problem) {
		for n := range len(p.Tasks) + 1 {
			if n > 0 && len(p.Hosts) == 0 {
				return
			}
			begin := randomPlan(r, p, n)
			want(t, "Hopeless", hopelessOf(p, begin), results(hopeless(p, begin), api.OK))
			want(t, "Bound", boundOf(p, begin), results(costs(p, begin), api.OK))
			if n == len(p.Tasks) {
				want(t, "Allowed", allowedOf(p, begin), results(!hopeless(p, begin), api.OK))
				want(t, "Cost", costOf(p, begin), results(costs(p, begin), api.OK))
			}
		}
	})
}

// P3.12: the bound of a beginning is at most the cost of every plan that begins so; after a hopeless one no plan is allowed.
func TestBeginnings(t *testing.T) {
	randomly(t, 150, func(r *rand.Rand, p api.Problem) {
		each(p, nil, func(plan []int) {
			cost, is := costOf(p, plan)[0].(int), allowedOf(p, plan)[0].(bool)
			for n := range len(plan) + 1 {
				least := boundOf(p, plan[:n])[0].(int)
				if least > cost || is && hopelessOf(p, plan[:n])[0].(bool) {
					t.Errorf("the plan %v costs %d (allowed: %v), but begins with %v, which costs %d", plan, cost, is, plan[:n], least)
				}
			}
		})
	})
}
