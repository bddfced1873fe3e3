package loom_test

import (
	"math/rand"
	"slices"
	"testing"

	"ignition/api"
)

// These looms have 40 options, so that their variants cannot be tried one by one; what should come out is known from how they are made.

// taking returns the variant in which some of 40 options are taken.
func taking(l ...int) []bool {
	v := make([]bool, api.MaxOptions)
	for _, option := range l {
		v[option] = true
	}
	return v
}

// bundle returns a loom of the greatest size whose wires all come from one pin and lead to pins of their own.
func bundle() api.Loom {
	l := greatest()
	for i := range l.Wires {
		l.Wires[i].From = api.Pin{}
		l.Wires[i].To = api.Pin{Plug: 29 - i/40, Cavity: i % 40}
	}
	return l
}

// apart adds rules by which at most one option of each 8 is taken.
func apart(l *api.Loom) {
	for first := 0; first < api.MaxOptions; first += 8 {
		for i := 1; i < 8; i++ {
			before := api.Formula{first}
			for k := 1; k < i; k++ {
				before = append(append(api.Formula{api.Or}, before...), first+k)
			}
			l.Model.Rules = append(l.Model.Rules, append(append(api.Formula{api.Not, api.And}, before...), first+i))
		}
	}
}

// P6.5, P6.6: the greatest fill if options exclude each other.
func TestLargeWorst(t *testing.T) {
	l := bundle()
	apart(&l)
	for i := range l.Wires {
		l.Wires[i].Size = 100 + i%8
	}
	// Of each group the option with the greatest wires is taken; those below 20 have two wires.
	should := 2*107 + 2*107 + 2*103 + 107 + 107
	for _, run := range []int{0, 13, 27} {
		want(t, "Worst", worstOf(l, run), results(should, taking(7, 15, 19, 31, 39), api.OK))
	}
	want(t, "Worst of a run that the first 40 wires use", worstOf(l, 28), results(5*107, taking(7, 15, 23, 31, 39), api.OK))
	want(t, "Worst of a run that no wire uses", worstOf(l, 29), results(0, taking(), api.OK))
	for i := range l.Runs {
		l.Runs[i].Room = should
	}
	want(t, "Tight with just enough room", tightOf(l), results([]int{}, api.OK))
	l.Runs[3].Room, l.Runs[9].Room, l.Runs[28].Room, l.Runs[29].Room = should-1, should-1, 5*107-1, 0
	want(t, "Tight with one less", tightOf(l), results([]int{3, 9, 28}, api.OK))
}

// P6.7: how many pairs go together if options exclude each other in groups of 8.
func TestLargeClashes(t *testing.T) {
	l := bundle()
	apart(&l)
	var pairs []api.Pair
	for i := range l.Wires {
		for k := i + 1; k < len(l.Wires); k++ {
			if a, b := i%40, k%40; a == b || a/8 != b/8 {
				pairs = append(pairs, api.Pair{Left: i, Right: k})
			}
		}
	}
	want(t, "Clashes", clashesOf(l), results(pairs, api.OK))
	want(t, "Sorts", sortsOf(l), results([]int{}, []int{}, api.OK))
}

// clauses returns rules of 4 random options each, or their opposites, one of which has to hold.
func clauses(r *rand.Rand, n int) []api.Formula {
	var l []api.Formula
	for range n {
		f := api.Formula{api.No}
		for _, option := range r.Perm(api.MaxOptions)[:4] {
			f = append(api.Formula{api.Or}, f...)
			if r.Intn(2) == 0 {
				f = append(f, api.Not)
			}
			f = append(f, option)
		}
		l = append(l, f)
	}
	return l
}

// P6.7, P6.11 (and P0.1: they end): 60 rules that have nothing to do with each other.
func TestTangledRules(t *testing.T) {
	r := rand.New(rand.NewSource(7))
	l := bundle()
	l.Model.Rules = clauses(r, api.MaxRules)
	for i := range 20 {
		l.Wires[40+i].Form = api.Formula{api.Not, i}
	}
	pairs, e := clashesOf(l)[0].([]api.Pair), clashesOf(l)[1]
	want(t, "the error of Clashes", e, api.OK)
	for i := range 20 {
		if slices.Contains(pairs, api.Pair{Left: i, Right: 40 + i}) {
			t.Errorf("the wires %d and %d clash", i, 40+i)
		}
	}
	if len(pairs) < 1700 {
		t.Errorf("there are %d Clashes", len(pairs))
	}
	want(t, "Sorts", sortsOf(l), results([]int{}, []int{}, api.OK))
}
