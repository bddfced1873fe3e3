package place_test

import (
	"fmt"
	"math"
	"math/rand"
	"slices"
	"strings"
	"testing"

	"ignition/api"
	"ignition/place"
)

// argument is a list of arguments for all functions.
type argument struct {
	p      api.Problem
	plan   []int
	leaves []api.Leaf
	number int
}

// call calls every function of the package, and returns all that they return.
func call(a argument) [][]any {
	return [][]any{
		results(place.Check(a.p)), allowedOf(a.p, a.plan), costOf(a.p, a.plan), hopelessOf(a.p, a.plan), boundOf(a.p, a.plan),
		bestOf(a.p), listOf(a.p, a.number), countOf(a.p), proveOf(a.p), provesOf(a.p, a.leaves, a.number), conflictOf(a.p),
		repairOf(a.p, a.plan, a.number), saveOf(a.p, a.plan),
	}
}

// numbers are of all sorts.
func numbers() []int {
	return []int{0, 1, 2, 3, 5, -1, 64, 65, 100000, 100001, math.MinInt, math.MaxInt}
}

// spoil changes something of a problem to a number of any sort.
func spoil(r *rand.Rand, p *api.Problem) {
	n := numbers()[r.Intn(len(numbers()))]
	names := []string{"", "a", "\xff", strings.Repeat("a", 1000)}
	switch r.Intn(9) {
	case 0:
		p.Tasks = append(p.Tasks, api.Task{Name: names[r.Intn(len(names))], Memory: n})
	case 1:
		p.Hosts = append(p.Hosts, api.Host{Name: names[r.Intn(len(names))], Price: n})
	case 2:
		p.Binds = append(p.Binds, api.Bind{Kind: r.Intn(7), A: n, B: r.Intn(3)})
	case 3:
		p.Binds = append(p.Binds, api.Bind{Kind: n, A: r.Intn(3), B: n})
	case 4:
		p.Talks = append(p.Talks, api.Talk{A: n, B: r.Intn(3), Weight: 2})
	case 5:
		p.Talks = append(p.Talks, api.Talk{A: 0, B: 1, Weight: n})
	case 6:
		p.Tasks = append(p.Tasks, make([]api.Task, r.Intn(50))...)
	case 7:
		p.Binds = append(p.Binds, make([]api.Bind, r.Intn(50))...)
	case 8:
		p.Hosts = slices.Repeat(p.Hosts, r.Intn(5))
	}
}

// arguments returns arguments for all functions, many of them bad ones.
func arguments() []argument {
	r := rand.New(rand.NewSource(6))
	any := func(l []int) int { return l[r.Intn(len(l))] }
	plans := [][]int{nil, {}, {0}, {1, 0}, {0, 0, 0}, {-1}, {math.MinInt, 0}, {0, math.MaxInt}, make([]int, 1000)}
	var all []argument
	for i := range 2000 {
		a := argument{p: randomProblem(r, r.Intn(5), r.Intn(4), r.Intn(6)), plan: plans[r.Intn(len(plans))], number: any(numbers())}
		if r.Intn(2) == 0 && len(a.p.Hosts) > 0 {
			a.plan = randomPlan(r, a.p, len(a.p.Tasks))
		}
		for range any([]int{0, 0, 1, 3}) {
			spoil(r, &a.p)
		}
		a.leaves, _ = place.Prove(a.p)
		more := any([]int{0, 0, 1, 2})
		if i%100 == 0 {
			more = api.MaxLeaves + 1
		}
		for range more {
			a.leaves = append(a.leaves, leaf(r.Intn(4)-1, plans[r.Intn(len(plans))]...))
		}
		all = append(all, a)
	}
	return all
}

// P0.1: every function ends, for all arguments; results depend on arguments alone, which are not changed.
// With the rule R2: with an error every other result is its zero value.
func TestAllArguments(t *testing.T) {
	good, bad := map[int]int{}, map[int]int{}
	for _, a := range arguments() {
		before := fmt.Sprint(a)
		first := call(a)
		want(t, "the second results", call(a), first)
		if fmt.Sprint(a) != before {
			t.Fatalf("the arguments %s became %v", before, a)
		}
		for i, l := range first {
			if l[len(l)-1] == api.OK {
				good[i]++
				continue
			}
			bad[i]++
			for _, x := range l[:len(l)-1] {
				if zero := strings.Trim(fmt.Sprint(x), "[] 0"); zero != "" && zero != "false" {
					t.Fatalf("function %d returns %v", i, l)
				}
			}
		}
	}
	if len(good) != 13 || len(bad) != 13 {
		t.Errorf("without an error there were %v, with one %v", good, bad)
	}
}

// The rule R4: what is done with results shows nowhere else, neither in arguments nor in other results.
func TestResultsAreNew(t *testing.T) {
	p := bound(example(), api.Bind{Kind: api.Apart, A: 0, B: 1})
	p.Hosts[0].Time, p.Hosts[0].Level = 9, 2
	p.Hosts[1].Level = 2
	before := fmt.Sprint(p)
	l, _ := place.List(p, 9)
	should := fmt.Sprint(l[1:])
	l[0] = append(l[0], 8, 8, 8, 8, 8, 8, 8, 8, 8)
	l[0][0], l[0][1] = 7, 7
	want(t, "the other plans", l[1:], should)
	leaves, _ := place.Prove(p)
	for i := range leaves {
		rest := fmt.Sprint(leaves[i+1:])
		leaves[i].Plan = append(leaves[i].Plan, 8, 8, 8)
		leaves[i].Plan[0] = 7
		want(t, "the other leaves", leaves[i+1:], rest)
	}
	plan := []int{1, 0}
	new, _, _ := place.Repair(p, plan, 1)
	same, _, _ := place.Repair(bound(plain(2, 3)), plan, 2)
	want(t, "Repair", results(new, same), results([]int{}, []int{1, 0}))
	same[0] = 5
	best, _, _ := place.Best(p)
	best[0] = 6
	want(t, "the plan", plan, []int{1, 0})
	want(t, "the problem", p, before)
}

// The rule R4: what stands behind the ends of the arguments' lists stays.
func TestSpareCapacity(t *testing.T) {
	p := example()
	tasks, hosts := append(make([]api.Task, 0, 5), p.Tasks...), append(make([]api.Host, 0, 5), p.Hosts...)
	binds, talks := append(make([]api.Bind, 0, 5), api.Bind{Kind: api.Apart, A: 0, B: 1}, api.Bind{Kind: api.Fixed, A: 1, B: 1}), append(make([]api.Talk, 0, 5), p.Talks...)
	p = api.Problem{Tasks: tasks, Hosts: hosts, Binds: binds, Talks: talks}
	plan := append(make([]int, 0, 5), 1, 0)
	leaves := append(make([]api.Leaf, 0, 5), leaf(1, 1), leaf(1, 0))
	call(argument{p, plan, leaves, 1})
	want(t, "what stands behind", results(tasks[2:5], hosts[2:5], binds[2:5], talks[1:5], plan[2:5], leaves[2:5]),
		results(make([]api.Task, 3), make([]api.Host, 3), make([]api.Bind, 3), make([]api.Talk, 4), make([]int, 3), make([]api.Leaf, 3)))
	want(t, "the leaves", leaves, []api.Leaf{leaf(1, 1), leaf(1, 0)})
}

// The rule R3: nil and empty lists are the same.
func TestEmptyLists(t *testing.T) {
	some := api.Problem{Tasks: []api.Task{}, Hosts: []api.Host{}, Binds: []api.Bind{}, Talks: []api.Talk{}}
	want(t, "the results", call(argument{some, []int{}, []api.Leaf{}, 1}), call(argument{api.Problem{}, nil, nil, 1}))
	want(t, "Proves", provesOf(some, []api.Leaf{{Plan: []int{}, Why: 2}}, 0), provesOf(some, []api.Leaf{{Why: 2}}, 0))
}
