package place_test

import (
	"cmp"
	"fmt"
	"math/rand"
	"slices"
	"testing"

	"ignition/api"
	"ignition/place"
)

// The tests compare the package with plain definitions, which go through all plans there are.

// example is the problem of the chapter's examples.
func example() api.Problem {
	return api.Problem{
		Tasks: []api.Task{{Name: "a", Memory: 2, Time: 3}, {Name: "b", Memory: 1, Time: 3, Level: 2}},
		Hosts: []api.Host{{Name: "x", Memory: 4, Time: 5, Level: 2, Price: 10}, {Name: "y", Memory: 2, Time: 5, Zone: 1, Price: 4}},
		Talks: []api.Talk{{A: 0, B: 1, Weight: 3}},
	}
}

// letter returns a name that only this number has.
func letter(i int) string { return string(rune('a' + i)) }

// plain returns a problem in which tasks that need nothing may go anywhere, for nothing; all hosts are in one zone.
func plain(tasks, hosts int) api.Problem {
	var p api.Problem
	for i := range tasks {
		p.Tasks = append(p.Tasks, api.Task{Name: letter(i)})
	}
	for i := range hosts {
		p.Hosts = append(p.Hosts, api.Host{Name: letter(i)})
	}
	return p
}

// bound returns a problem with more bonds.
func bound(p api.Problem, bonds ...api.Bind) api.Problem {
	p.Binds = slices.Concat(p.Binds, bonds)
	return p
}

// talking returns a problem with more talks.
func talking(p api.Problem, talks ...api.Talk) api.Problem {
	p.Talks = slices.Concat(p.Talks, talks)
	return p
}

// copied returns a copy of a problem that shares no memory with it.
func copied(p api.Problem) api.Problem {
	return api.Problem{Tasks: slices.Clone(p.Tasks), Hosts: slices.Clone(p.Hosts), Binds: slices.Clone(p.Binds), Talks: slices.Clone(p.Talks)}
}

// overloaded is the plain definition of a host that has less than its tasks so far need, or too low a level.
func overloaded(p api.Problem, begin []int, host int) bool {
	h := p.Hosts[host]
	memory, time := 0, 0
	for t, at := range begin {
		if at != host {
			continue
		}
		if p.Tasks[t].Level > h.Level {
			return true
		}
		memory += p.Tasks[t].Memory
		time += p.Tasks[t].Time
	}
	return memory > h.Memory || time > h.Time
}

// broken is the plain definition of a bond that a beginning breaks.
func broken(p api.Problem, begin []int, b api.Bind) bool {
	if b.A >= len(begin) {
		return false
	}
	at := begin[b.A]
	switch b.Kind {
	case api.Barred:
		return at == b.B
	case api.Fixed:
		return at != b.B
	}
	if b.B >= len(begin) {
		return false
	}
	other := begin[b.B]
	return map[int]bool{
		api.Apart:    at == other,
		api.Together: at != other,
		api.Zoned:    p.Hosts[at].Zone == p.Hosts[other].Zone,
	}[b.Kind]
}

// hopeless is the plain definition of a hopeless beginning; a plan is allowed if it is not.
func hopeless(p api.Problem, begin []int) bool {
	for h := range p.Hosts {
		if overloaded(p, begin, h) {
			return true
		}
	}
	return slices.ContainsFunc(p.Binds, func(b api.Bind) bool { return broken(p, begin, b) })
}

// costs is the plain definition of the bound of a beginning, and of the cost of a plan.
func costs(p api.Problem, begin []int) int {
	n := 0
	for h, host := range p.Hosts {
		if slices.Contains(begin, h) {
			n += host.Price
		}
	}
	for _, t := range p.Talks {
		if t.A >= len(begin) || t.B >= len(begin) || begin[t.A] == begin[t.B] {
			continue
		}
		n += t.Weight
		if p.Hosts[begin[t.A]].Zone != p.Hosts[begin[t.B]].Zone {
			n += t.Weight
		}
	}
	return n
}

// each calls look with all plans that begin so, in ascending order of their hosts.
func each(p api.Problem, begin []int, look func(plan []int)) {
	if len(begin) == len(p.Tasks) {
		look(slices.Clone(begin))
		return
	}
	for h := range p.Hosts {
		each(p, append(begin, h), look)
	}
}

// priced is a plan with its cost.
type priced struct {
	cost int
	plan []int
}

// allowed is the plain definition of all allowed plans, in order.
func allowed(p api.Problem) []priced {
	var l []priced
	each(p, nil, func(plan []int) {
		if !hopeless(p, plan) {
			l = append(l, priced{costs(p, plan), plan})
		}
	})
	slices.SortFunc(l, func(a, b priced) int {
		return cmp.Or(cmp.Compare(a.cost, b.cost), slices.Compare(a.plan, b.plan))
	})
	return l
}

// randomBind returns a valid bond.
func randomBind(r *rand.Rand, tasks, hosts int) api.Bind {
	a := r.Intn(tasks)
	if tasks == 1 || r.Intn(2) == 0 {
		return api.Bind{Kind: api.Barred + max(r.Intn(8)-6, 0), A: a, B: r.Intn(hosts)}
	}
	return api.Bind{Kind: []int{api.Apart, api.Together, api.Zoned}[r.Intn(3)], A: a, B: (a + 1 + r.Intn(tasks-1)) % tasks}
}

// randomProblem returns a valid problem; many weights and prices are equal.
func randomProblem(r *rand.Rand, tasks, hosts, bonds int) api.Problem {
	var p api.Problem
	for i := range tasks {
		p.Tasks = append(p.Tasks, api.Task{Name: letter(i), Memory: r.Intn(5), Time: r.Intn(5), Level: r.Intn(3)})
	}
	for i := range hosts {
		p.Hosts = append(p.Hosts, api.Host{Name: letter(i), Memory: r.Intn(14), Time: 3 + r.Intn(12), Level: max(r.Intn(5), 1), Zone: r.Intn(3), Price: r.Intn(4) * 5})
	}
	if tasks == 0 || hosts == 0 {
		return p
	}
	for range bonds {
		p.Binds = append(p.Binds, randomBind(r, tasks, hosts))
	}
	for range r.Intn(8) {
		if a := r.Intn(tasks); tasks > 1 {
			p.Talks = append(p.Talks, api.Talk{A: a, B: (a + 1 + r.Intn(tasks-1)) % tasks, Weight: r.Intn(6)})
		}
	}
	return p
}

// randomPlan returns a plan, which need not be allowed.
func randomPlan(r *rand.Rand, p api.Problem, tasks int) []int {
	var l []int
	for range tasks {
		l = append(l, r.Intn(len(p.Hosts)))
	}
	return l
}

// randomly calls what looks at one random problem many times.
func randomly(t *testing.T, times int, look func(r *rand.Rand, p api.Problem)) {
	t.Helper()
	r := rand.New(rand.NewSource(1))
	for range times {
		p := randomProblem(r, r.Intn(6), r.Intn(5), r.Intn(6))
		if e := place.Check(p); e != api.OK {
			t.Fatalf("Check of %+v: %d", p, e)
		}
		look(r, p)
		if t.Failed() {
			t.Fatalf("with the problem %+v", p)
		}
	}
}

// want reports a result that is not what it should be; nil and empty lists are the same.
func want(t *testing.T, what string, got, should any) {
	t.Helper()
	if g, s := fmt.Sprint(got), fmt.Sprint(should); g != s {
		t.Errorf("%s is %s; it should be %s", what, g, s)
	}
}

// results makes one value of several results.
func results(l ...any) []any { return l }

// The functions below make one value of what the functions of the package return.

func allowedOf(p api.Problem, plan []int) []any {
	is, e := place.Allowed(p, plan)
	return results(is, e)
}

func costOf(p api.Problem, plan []int) []any {
	n, e := place.Cost(p, plan)
	return results(n, e)
}

func hopelessOf(p api.Problem, begin []int) []any {
	is, e := place.Hopeless(p, begin)
	return results(is, e)
}

func boundOf(p api.Problem, begin []int) []any {
	n, e := place.Bound(p, begin)
	return results(n, e)
}

func bestOf(p api.Problem) []any {
	plan, cost, e := place.Best(p)
	return results(plan, cost, e)
}

func listOf(p api.Problem, most int) []any {
	l, e := place.List(p, most)
	return results(l, e)
}

func countOf(p api.Problem) []any {
	n, e := place.Count(p)
	return results(n, e)
}

func proveOf(p api.Problem) []any {
	l, e := place.Prove(p)
	return results(l, e)
}

func provesOf(p api.Problem, leaves []api.Leaf, cost int) []any {
	is, e := place.Proves(p, leaves, cost)
	return results(is, e)
}

func conflictOf(p api.Problem) []any {
	l, e := place.Conflict(p)
	return results(l, e)
}

func repairOf(p api.Problem, plan []int, host int) []any {
	l, moved, e := place.Repair(p, plan, host)
	return results(l, moved, e)
}

func saveOf(p api.Problem, plan []int) []any {
	n, e := place.Save(p, plan)
	return results(n, e)
}
