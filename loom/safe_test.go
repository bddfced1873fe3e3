package loom_test

import (
	"fmt"
	"math"
	"math/rand"
	"slices"
	"strings"
	"testing"

	"ignition/api"
	"ignition/loom"
)

// argument is a list of arguments for all functions.
type argument struct {
	l     api.Loom
	a, b  int
	v     []bool
	spots []int
}

// call calls every function of the package, and returns all that they return.
func call(a argument) [][]any {
	return [][]any{
		results(loom.Check(a.l)), routeOf(a.l, a.a), lengthOf(a.l, a.a), distanceOf(a.l, a.a, a.b), carriedOf(a.l, a.a, a.v), fillOf(a.l, a.a, a.v),
		worstOf(a.l, a.a), tightOf(a.l), clashesOf(a.l), bendsOf(a.l), spliceOf(a.l, a.spots...), joinedOf(a.l, a.spots...),
		sortsOf(a.l), copperOf(a.l, a.v), moveOf(a.l, a.a, a.b),
	}
}

// numbers are of all sorts.
func numbers() []int {
	return []int{0, 1, 2, 3, 5, -1, -2, -7, 39, 40, 41, 10000, 10001, 100000, 100001, 1000000, 1000001, 1 << 32, -1 << 32, math.MinInt, math.MinInt + 1, math.MaxInt - 1, math.MaxInt}
}

// fields returns pointers to the numbers of something that a loom has.
func fields(r *rand.Rand, l *api.Loom) []*int {
	switch i := r.Intn(1 << 20); {
	case i%4 == 0 && len(l.Spots) > 0:
		s := &l.Spots[i%len(l.Spots)]
		return []*int{&s.X, &s.Y, &s.Z}
	case i%4 == 1 && len(l.Runs) > 0:
		run := &l.Runs[i%len(l.Runs)]
		return []*int{&run.A, &run.B, &run.Length, &run.Room}
	case i%4 == 2 && len(l.Plugs) > 0:
		p := &l.Plugs[i%len(l.Plugs)]
		return []*int{&p.Spot, &p.Cavities}
	case len(l.Wires) > 0:
		w := &l.Wires[i%len(l.Wires)]
		all := []*int{&w.From.Plug, &w.From.Cavity, &w.To.Plug, &w.To.Cavity, &w.Size}
		for k := range w.Form {
			all = append(all, &w.Form[k])
		}
		return all
	}
	return []*int{new(int)}
}

// spoil changes something of a loom to something of any sort.
func spoil(r *rand.Rand, l *api.Loom) {
	n := numbers()[r.Intn(len(numbers()))]
	names := []string{"", "a", "aa", "yes", "\xff", strings.Repeat("a", 1000)}
	name := names[r.Intn(len(names))]
	switch r.Intn(16) {
	case 0:
		l.Model.Options = append(l.Model.Options, name)
	case 1:
		l.Model.Rules = append(l.Model.Rules, api.Formula{n})
	case 2:
		l.Plugs = append(l.Plugs, api.Plug{Name: name, Spot: n, Cavities: 1})
	case 3:
		l.Wires = append(l.Wires, api.Wire{Name: name, Size: n})
	case 4:
		l.Spots = append(l.Spots, make([]api.Spot, r.Intn(50))...)
	case 5:
		l.Runs = slices.Repeat(l.Runs, r.Intn(5))
	case 6:
		l.Wires = slices.Repeat(l.Wires, r.Intn(20))
	default:
		all := fields(r, l)
		*all[r.Intn(len(all))] = n
	}
}

// arguments returns arguments for all functions, many of them bad ones.
func arguments() []argument {
	r := rand.New(rand.NewSource(16))
	small := func() int {
		if r.Intn(4) == 0 {
			return numbers()[r.Intn(len(numbers()))]
		}
		return r.Intn(3)
	}
	var all []argument
	for range 4000 {
		a := argument{l: randomLoom(r), a: small(), b: small()}
		a.v = make([]bool, len(a.l.Model.Options))
		for i := range a.v {
			a.v[i] = r.Intn(2) == 0
		}
		a.v = append(a.v, make([]bool, max(0, r.Intn(4)-2))...)
		for range r.Intn(5) {
			a.spots = append(a.spots, small())
		}
		for range max(0, r.Intn(6)-3) {
			spoil(r, &a.l)
		}
		all = append(all, a)
	}
	return all
}

// isZero reports whether a result is its zero value.
func isZero(x any) bool {
	return slices.Contains([]string{"0", "[]", fmt.Sprint(api.Loom{})}, fmt.Sprint(x))
}

// P0.1: every function ends, for all arguments; results depend on arguments alone, which are not changed.
// With the rule R2: with an error every other result is its zero value. All functions return Check's errors first.
func TestAllArguments(t *testing.T) {
	good, bad := map[int]int{}, map[int]int{}
	errors := map[api.Errno]int{}
	for _, a := range arguments() {
		before := fmt.Sprint(a)
		first := call(a)
		want(t, "the second results", call(a), first)
		if fmt.Sprint(a) != before {
			t.Fatalf("the arguments %s became %v", before, a)
		}
		check := first[0][0].(api.Errno)
		errors[check]++
		for i, l := range first {
			e := l[len(l)-1].(api.Errno)
			if check != api.OK && e != check {
				t.Fatalf("function %d returns %v, but Check %d", i, l, check)
			}
			if e == api.OK {
				good[i]++
				continue
			}
			bad[i]++
			if slices.ContainsFunc(l[:len(l)-1], func(x any) bool { return !isZero(x) }) {
				t.Fatalf("function %d returns %v", i, l)
			}
		}
	}
	for i := range 15 {
		if good[i] < 100 || bad[i] < 100 {
			t.Errorf("function %d: %d times without an error, %d times with one", i, good[i], bad[i])
		}
	}
	for _, e := range []api.Errno{api.ErrMany, api.ErrOption, api.ErrFormula, api.ErrSpot, api.ErrTree, api.ErrPlug, api.ErrWire} {
		if errors[e] < 10 {
			t.Errorf("the error %d came %d times", e, errors[e])
		}
	}
}

// spare returns a copy with room for more.
func spare[T any](l []T) []T { return append(make([]T, 0, len(l)+5), l...) }

// roomy returns the loom of the examples with rules, with room for more in every list.
func roomy() api.Loom {
	l := ruled(spare(api.Formula{api.Or, 0, 1}), spare(api.Formula{api.Yes}))
	l.Model = api.Model{Options: spare(l.Model.Options), Rules: spare(l.Model.Rules)}
	for i, w := range l.Wires {
		l.Wires[i].Form = spare(w.Form)
	}
	return api.Loom{Model: l.Model, Spots: spare(l.Spots), Runs: spare(l.Runs), Plugs: spare(l.Plugs), Wires: spare(l.Wires)}
}

// behind returns what stands in the room behind a list.
func behind[T any](l []T) string { return fmt.Sprint(l[len(l):cap(l)]) }

// The rule R4: what stands behind the ends of the arguments' lists stays.
func TestSpareCapacity(t *testing.T) {
	look := func(a argument) []string {
		l := []string{behind(a.v), behind(a.spots), behind(a.l.Model.Options), behind(a.l.Model.Rules), behind(a.l.Spots), behind(a.l.Runs), behind(a.l.Plugs), behind(a.l.Wires)}
		for _, rule := range a.l.Model.Rules {
			l = append(l, behind(rule))
		}
		for _, w := range a.l.Wires {
			l = append(l, behind(w.Form))
		}
		return l
	}
	a := argument{l: roomy(), a: 1, b: 2, v: spare([]bool{true, false}), spots: spare([]int{0, 2, 3})}
	before := look(a)
	call(a)
	want(t, "what stands behind the arguments", look(a), before)
}

// scribble changes everything in a loom.
func scribble(l api.Loom) {
	for i := range l.Model.Options {
		l.Model.Options[i] = "other"
	}
	for _, rule := range l.Model.Rules {
		rule[0] = 77
	}
	for i := range l.Spots {
		l.Spots[i].X = 77
	}
	for i := range l.Runs {
		l.Runs[i].Length = 77
	}
	for i := range l.Plugs {
		l.Plugs[i].Spot = 77
	}
	for i := range l.Wires {
		l.Wires[i].Form[0] = 77
		l.Wires[i].Size = 77
	}
	clear(l.Model.Rules)
}

// The rule R4: what is done with results shows nowhere else, neither in arguments nor in other results.
func TestResultsAreNew(t *testing.T) {
	a := argument{l: roomy(), a: 1, b: 2, v: []bool{true, true}, spots: []int{0, 2, 3}}
	before, first := fmt.Sprint(a), fmt.Sprint(call(a))
	for _, l := range call(a) {
		for _, x := range l {
			switch x := x.(type) {
			case []int:
				for i := range x {
					x[i] = 77
				}
			case []bool:
				for i := range x {
					x[i] = !x[i]
				}
			case []api.Pair:
				clear(x)
			case api.Loom:
				scribble(x)
			}
		}
	}
	want(t, "the arguments", fmt.Sprint(a), before)
	want(t, "the results", fmt.Sprint(call(a)), first)
	one := api.Formula{0}
	l := changed(func(l *api.Loom) { l.Wires[0].Form, l.Wires[1].Form, l.Model.Rules = one, one, []api.Formula{one, one} })
	moved, _ := loom.Move(l, 0, 0)
	moved.Wires[0].Form[0], moved.Model.Rules[0][0] = 7, 8
	want(t, "the other formulas", results(moved.Wires[1].Form, moved.Model.Rules[1], one), results(api.Formula{0}, api.Formula{0}, api.Formula{0}))
}

// The rule R3: nil and empty lists are the same.
func TestEmptyLists(t *testing.T) {
	some := api.Loom{Model: api.Model{Options: []string{}, Rules: []api.Formula{}}, Spots: []api.Spot{{}}, Runs: []api.Run{}, Plugs: []api.Plug{}, Wires: []api.Wire{}}
	want(t, "the results", call(argument{l: some, v: []bool{}, spots: []int{}}), call(argument{l: api.Loom{Spots: []api.Spot{{}}}}))
	some.Spots = []api.Spot{}
	want(t, "the results without spots", call(argument{l: some, v: []bool{}, spots: []int{}}), call(argument{}))
}
