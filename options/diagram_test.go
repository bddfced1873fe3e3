package options_test

import (
	"fmt"
	"math"
	"math/rand"
	"slices"
	"testing"

	"ignition/api"
	"ignition/options"
)

// P1.5: the example of the chapter.
func TestDiagramOfExample(t *testing.T) {
	knots, root, e := options.Diagram(model(), yes)
	want(t, "Diagram", []any{knots, root, e}, []any{[]api.Knot{{Option: 2, Low: -1, High: -2}, {Option: 1, Low: 0, High: -2}, {Option: 2, Low: -2, High: -1}, {Option: 1, Low: -1, High: 2}, {Option: 0, Low: 1, High: 3}}, 4, api.OK})
}

// P1.5: diagrams without knots, and with few.
func TestDiagramOfEdges(t *testing.T) {
	for _, x := range []struct {
		m    api.Model
		f    api.Formula
		root int
	}{{model(), api.Formula{api.No}, -1}, {without(), yes, -1}, {api.Model{}, yes, -2}, {api.Model{}, api.Formula{api.No}, -1}, {free(40), yes, -2}, {free(3), api.Formula{api.Same, 1, 1}, -2}} {
		knots, root, e := options.Diagram(x.m, x.f)
		want(t, "Diagram", []any{len(knots), root, e}, []any{0, x.root, api.OK})
	}
	knots, root, e := options.Diagram(free(40), api.Formula{api.Not, 39})
	want(t, "Diagram of one option", []any{knots, root, e}, []any{[]api.Knot{{Option: 39, Low: -2, High: -1}}, 0, api.OK})
}

// P1.5: MaxKnots just reached, and just exceeded, and exceeded by far.
func TestDiagramLimits(t *testing.T) {
	f := api.Formula{-5, -5, -5, -5, -5, -6, -5, -5, -5, -5, -4, 0, 11, -4, 1, 12, -4, 2, 16, -4, 3, 4, -4, 4, 15, -4, 5, 16, -4, 6, 17, -4, 7, 18, -4, 8, 19, -4, 9, 20, -4, 10, 21}
	knots, root, e := options.Diagram(free(23), f)
	want(t, "Diagram of 2000 knots", []any{len(knots), root, e}, []any{api.MaxKnots, api.MaxKnots - 1, api.OK})
	is, e := options.Follow(free(23), knots, root, make([]bool, 23))
	want(t, "Follow", []any{is, e}, []any{meet(make([]bool, 23), f), api.OK})
	_, e = options.Follow(free(23), append(knots, api.Knot{Option: 0, Low: -1, High: -2}), root, make([]bool, 23))
	want(t, "Follow of 2001 knots", e, api.ErrArg)
	for _, f := range []api.Formula{both(api.And, f, api.Formula{22}), crossed(10), crossed(20)} {
		knots, root, e = options.Diagram(free(40), f)
		want(t, "Diagram of too many knots", []any{len(knots), root, e}, []any{0, 0, api.ErrMany})
	}
}

// P1.5: errors, and which comes first.
func TestDiagramErrors(t *testing.T) {
	bad := api.Model{Options: []string{"a", "a"}}
	_, _, e := options.Diagram(bad, nil)
	want(t, "Diagram with a bad model", e, api.ErrOption)
	for _, f := range badFormulas() {
		knots, root, e := options.Diagram(model(), f)
		want(t, "Diagram of a bad formula", []any{len(knots), root, e}, []any{0, 0, api.ErrFormula})
	}
	_, e = options.Follow(bad, nil, 7, nil)
	want(t, "Follow with a bad model", e, api.ErrOption)
	good := []api.Knot{{Option: 2, Low: -1, High: -2}, {Option: 1, Low: 0, High: -2}, {Option: 0, Low: 1, High: 0}}
	v := []bool{false, false, true}
	is, e := options.Follow(model(), good, 2, v)
	want(t, "Follow", []any{is, e}, []any{true, api.OK})
	for i, change := range []func(l []api.Knot){
		func(l []api.Knot) { l[0].Option = 3 }, func(l []api.Knot) { l[0].Option = -1 }, func(l []api.Knot) { l[0].Option = math.MinInt },
		func(l []api.Knot) { l[0].Low = -3 }, func(l []api.Knot) { l[0].High = -3 }, func(l []api.Knot) { l[0].Low = 0 }, func(l []api.Knot) { l[0].High = 1 },
		func(l []api.Knot) { l[1].Low = 1 }, func(l []api.Knot) { l[1].High = 2 }, func(l []api.Knot) { l[1].Option = 2 }, func(l []api.Knot) { l[2].Option = 1 },
		func(l []api.Knot) { l[2].High = math.MaxInt }, func(l []api.Knot) { l[2].Low = math.MinInt },
	} {
		l := slices.Clone(good)
		change(l)
		is, e := options.Follow(model(), l, 2, v)
		want(t, fmt.Sprint("Follow with the change ", i), []any{is, e}, []any{false, api.ErrArg})
	}
	for _, root := range []int{-3, 3, math.MinInt, math.MaxInt} {
		is, e := options.Follow(model(), good, root, v)
		want(t, "Follow from no knot", []any{is, e}, []any{false, api.ErrArg})
	}
	for _, v := range [][]bool{nil, {true}, make([]bool, 4)} {
		is, e := options.Follow(model(), good, -2, v)
		want(t, "Follow of a variant of another length", []any{is, e}, []any{false, api.ErrArg})
	}
}

// P1.5: Follow needs no reduced diagram, and may begin anywhere.
func TestFollow(t *testing.T) {
	l := []api.Knot{{Option: 2, Low: -2, High: -2}, {Option: 2, Low: -2, High: -2}, {Option: 1, Low: -1, High: 1}, {Option: 0, Low: 2, High: -1}}
	for _, x := range []struct {
		root int
		v    []bool
		is   bool
	}{
		{-2, []bool{false, false, false}, true}, {-1, []bool{true, true, true}, false}, {0, []bool{true, true, true}, true},
		{2, []bool{true, true, false}, true}, {2, []bool{true, false, false}, false}, {3, []bool{false, true, true}, true}, {3, []bool{true, true, true}, false},
	} {
		is, e := options.Follow(model(), l, x.root, x.v)
		want(t, fmt.Sprint("Follow from ", x.root), []any{is, e}, []any{x.is, api.OK})
	}
	is, e := options.Follow(api.Model{}, nil, -2, nil)
	want(t, "Follow without options", []any{is, e}, []any{true, api.OK})
	is, e = options.Follow(model(), nil, 0, make([]bool, 3))
	want(t, "Follow from a knot where there are none", []any{is, e}, []any{false, api.ErrArg})
}

// lister lists the knots of a diagram straight from what its variants say, in order.
type lister struct {
	knots []api.Knot
	seen  map[string]int
}

// list returns the number of what is left from an option on.
func (l *lister) list(option int, says []bool) int {
	if !slices.Contains(says, !says[0]) {
		return map[bool]int{true: -2, false: -1}[says[0]]
	}
	key := fmt.Sprint(option, says)
	if i, is := l.seen[key]; is {
		return i
	}
	low := l.list(option+1, says[:len(says)/2])
	high := l.list(option+1, says[len(says)/2:])
	if low == high {
		return low
	}
	k := api.Knot{Option: option, Low: low, High: high}
	i := slices.Index(l.knots, k)
	if i < 0 {
		i = len(l.knots)
		l.knots = append(l.knots, k)
	}
	l.seen[key] = i
	return i
}

// P1.5, P1.7, P1.8: random diagrams.
func TestDiagramsRandomly(t *testing.T) {
	randomly(t, func(r *rand.Rand, m api.Model) {
		n := len(m.Options)
		f, g := randomFormula(r, n, 1+r.Intn(8)), randomFormula(r, n, 1+r.Intn(3))
		var says []bool
		for _, v := range variants(n) {
			says = append(says, meet(v, m.Rules...) && meet(v, f))
		}
		l := lister{seen: map[string]int{}}
		shouldRoot := l.list(0, says)
		knots, root, e := options.Diagram(m, f)
		want(t, "Diagram", []any{root, e}, []any{shouldRoot, api.OK})
		want(t, "the knots of Diagram", knots, l.knots)
		for i, v := range variants(n) {
			is, e := options.Follow(m, knots, root, v)
			want(t, "Follow", []any{is, e}, []any{says[i], api.OK})
		}
		others, other, _ := options.Diagram(m, g)
		equal := same(knots, others) && root == other
		want(t, "whether diagrams are equal", equal, same(built(m, f), built(m, g)))
	})
}
