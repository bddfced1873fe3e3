package place_test

import (
	"math"
	"math/rand"
	"slices"
	"testing"

	"ignition/api"
	"ignition/place"
)

// P3.9: the example of the chapter, and with one more host.
func TestExampleRepair(t *testing.T) {
	p := example()
	want(t, "Repair", repairOf(p, []int{1, 0}, 1), results([]int{}, 0, api.ErrNone))
	p.Hosts = append(p.Hosts, api.Host{Name: "z", Memory: 9, Time: 9, Level: 4, Price: 50})
	want(t, "Repair with z", repairOf(p, []int{1, 0}, 1), results([]int{2, 0}, 1, api.OK))
	want(t, "Repair without x", repairOf(p, []int{1, 0}, 0), results([]int{1, 2}, 1, api.OK))
	want(t, "Repair of what is not used", repairOf(p, []int{1, 0}, 2), results([]int{1, 0}, 0, api.OK))
	want(t, "Repair of what is not allowed", repairOf(p, []int{0, 0}, 2), results([]int{1, 0}, 1, api.OK))
	want(t, "Repair of what is not allowed, and used", repairOf(p, []int{0, 0}, 0), results([]int{2, 2}, 2, api.OK))
}

// P3.9: the errors, in their order.
func TestRepairErrors(t *testing.T) {
	p := example()
	for _, host := range []int{-1, 2, math.MinInt, math.MaxInt} {
		want(t, "Repair of a host that there is not", repairOf(p, []int{1, 0}, host), results([]int{}, 0, api.ErrArg))
		want(t, "Repair of no plan", repairOf(p, []int{1, 2}, host), results([]int{}, 0, api.ErrPlan))
	}
	for _, plan := range [][]int{nil, {0}, {0, 0, 0}, {-1, 0}, {0, 2}} {
		want(t, "Repair of no plan", repairOf(p, plan, 0), results([]int{}, 0, api.ErrPlan))
	}
	want(t, "Repair without tasks", repairOf(plain(0, 1), nil, 0), results([]int{}, 0, api.OK))
	want(t, "Repair without all", repairOf(plain(0, 0), nil, 0), results([]int{}, 0, api.ErrArg))
	want(t, "Repair of the only host", repairOf(plain(1, 1), []int{0}, 0), results([]int{}, 0, api.ErrNone))
}

// P3.9: fewer tasks that move come before the cost, which comes before the hosts.
func TestNearest(t *testing.T) {
	p := plain(3, 4)
	p.Hosts[1].Price, p.Hosts[2].Price, p.Hosts[3].Price = 7, 5, 5
	want(t, "Repair", repairOf(p, []int{0, 1, 1}, 0), results([]int{1, 1, 1}, 1, api.OK))
	p.Hosts[1].Price = 100
	want(t, "Repair with a price", repairOf(p, []int{0, 1, 1}, 0), results([]int{1, 1, 1}, 1, api.OK))
	p = bound(p, api.Bind{Kind: api.Barred, A: 0, B: 1})
	want(t, "Repair with a bond", repairOf(p, []int{0, 1, 1}, 0), results([]int{2, 1, 1}, 1, api.OK))
	p.Hosts[3].Price = 4
	want(t, "Repair with a lower price", repairOf(p, []int{0, 1, 1}, 0), results([]int{3, 1, 1}, 1, api.OK))
	p = bound(p, api.Bind{Kind: api.Together, A: 0, B: 2})
	want(t, "Repair of two", repairOf(p, []int{0, 1, 1}, 0), results([]int{3, 1, 3}, 2, api.OK))
}

// nearest is the plain definition of Repair.
func nearest(p api.Problem, plan []int, host int) []any {
	best, moved := []int{}, math.MaxInt
	for _, a := range allowed(p) {
		n := 0
		for i := range plan {
			if a.plan[i] != plan[i] {
				n++
			}
		}
		if n < moved && !slices.Contains(a.plan, host) {
			best, moved = a.plan, n
		}
	}
	if moved == math.MaxInt {
		return results([]int{}, 0, api.ErrNone)
	}
	return results(best, moved, api.OK)
}

// P3.9, P3.14: random plans of random problems.
func TestRandomRepairs(t *testing.T) {
	moves := map[int]int{}
	randomly(t, 2000, func(r *rand.Rand, p api.Problem) {
		if len(p.Hosts) == 0 {
			return
		}
		plan, host := randomPlan(r, p, len(p.Tasks)), r.Intn(len(p.Hosts))
		if best, _, e := place.Best(p); e == api.OK && r.Intn(2) == 0 {
			plan = best
		}
		should := nearest(p, plan, host)
		want(t, "Repair", results(plan, host, repairOf(p, plan, host)), results(plan, host, should))
		if should[2] != api.OK {
			return
		}
		got, moved, _ := place.Repair(p, plan, host)
		moves[moved]++
		if !allowedOf(p, got)[0].(bool) || slices.Contains(got, host) {
			t.Errorf("Repair of %v without %d is %v", plan, host, got)
		}
		if allowedOf(p, plan)[0].(bool) && !slices.Contains(plan, host) {
			want(t, "Repair of what needs none", repairOf(p, plan, host), results(plan, 0, api.OK))
		}
	})
	for n := range 5 {
		if moves[n] < 10 {
			t.Errorf("there were %d repairs that move %d tasks", moves[n], n)
		}
	}
}

// P3.10: the example of the chapter, and the ends of the range.
func TestSave(t *testing.T) {
	p := example()
	want(t, "Save", saveOf(p, []int{1, 0}), results(166, api.OK))
	p.Hosts[0].Time = 100000
	p.Hosts[1].Time = 3
	want(t, "Save of what is full", saveOf(p, []int{1, 0}), results(100, api.OK))
	p.Hosts[1].Time = 2
	want(t, "Save of what has too little", saveOf(p, []int{1, 0}), results(66, api.OK))
	p.Hosts[1].Time = 0
	want(t, "Save of what has nothing", saveOf(p, []int{1, 0}), results(0, api.OK))
	p.Tasks[0].Time = 0
	want(t, "Save of what needs nothing there", saveOf(p, []int{1, 0}), results(api.MaxCost, api.OK))
	p.Tasks[0].Memory = 3
	want(t, "Save of what lacks Memory", saveOf(p, []int{1, 0}), results(0, api.ErrPlan))
	want(t, "Save of a lower level", saveOf(example(), []int{0, 1}), results(0, api.ErrPlan))
	want(t, "Save of a broken bond", saveOf(bound(example(), api.Bind{Kind: api.Fixed, A: 0, B: 0}), []int{1, 0}), results(0, api.ErrPlan))
	want(t, "Save of what is not allowed for its Time", saveOf(example(), []int{0, 0}), results(66, api.OK))
	want(t, "Save of no plan", saveOf(example(), []int{0}), results(0, api.ErrPlan))
	want(t, "Save without tasks", saveOf(plain(0, 0), nil), results(api.MaxCost, api.OK))
}

// P3.10: the greatest number is MaxCost; each task is rounded up by itself.
func TestSaveEnds(t *testing.T) {
	p := plain(1, 1)
	p.Tasks[0].Time = 100
	for time, n := range map[int]int{0: 0, 1: 1, 99999: 99999, 100000: 100000} {
		p.Hosts[0].Time = time
		want(t, "Save", results(time, saveOf(p, []int{0})), results(time, results(n, api.OK)))
	}
	p.Hosts[0].Time = api.MaxCost
	p.Tasks[0].Time = 99
	want(t, "Save of a little less", saveOf(p, []int{0}), results(api.MaxCost, api.OK))
	p.Tasks[0].Time = 101
	want(t, "Save of a little more", saveOf(p, []int{0}), results(99009, api.OK))
	p.Tasks[0].Time = 100000
	p.Hosts[0].Time = 1000
	want(t, "Save of the greatest Time", saveOf(p, []int{0}), results(1, api.OK))
	p = plain(3, 1)
	for i := range p.Tasks {
		p.Tasks[i].Time = 1
	}
	p.Hosts[0].Time = 5
	want(t, "Save of three that are rounded up", saveOf(p, []int{0, 0, 0}), results(100, api.OK))
	p.Hosts[0].Time = 2
	want(t, "Save of three on two", saveOf(p, []int{0, 0, 0}), results(0, api.OK))
}

// slower is the plain definition of a problem whose tasks take n hundredths of their Time.
func slower(p api.Problem, n int) api.Problem {
	p = copied(p)
	for i := range p.Tasks {
		hundredths := p.Tasks[i].Time * n
		p.Tasks[i].Time = hundredths / 100
		if hundredths%100 > 0 {
			p.Tasks[i].Time++
		}
	}
	return p
}

// P3.10: random plans.
func TestRandomSaves(t *testing.T) {
	saves := map[int]int{}
	randomly(t, 2000, func(r *rand.Rand, p api.Problem) {
		if len(p.Hosts) == 0 {
			return
		}
		plan := randomPlan(r, p, len(p.Tasks))
		n, e := place.Save(p, plan)
		if hopeless(slower(p, 0), plan) {
			want(t, "Save", results(n, e), results(0, api.ErrPlan))
			return
		}
		saves[n]++
		want(t, "the error of Save", e, api.OK)
		if hopeless(slower(p, n), plan) || n < api.MaxCost && !hopeless(slower(p, n+1), plan) || n < 0 || n > api.MaxCost {
			t.Errorf("Save of %v is %d", plan, n)
		}
	})
	if len(saves) < 20 {
		t.Errorf("Save is one of %v alone", saves)
	}
}
