package options_test

import (
	"math/rand"
	"testing"

	"ignition/api"
	"ignition/options"
)

// P1.3: the examples of the chapter.
func TestQuestionsOfExample(t *testing.T) {
	m := model()
	v, is, e := options.Meets(m, []api.Formula{{1}, {api.Not, 2}})
	want(t, "Meets", []any{v, is, e}, []any{[]bool{false, true, false}, true, api.OK})
	v, is, e = options.Meets(m, []api.Formula{{0}, {2}})
	want(t, "Meets of tow and led", []any{len(v), is, e}, []any{0, false, api.OK})
	v, is, e = options.Implies(m, api.Formula{0}, api.Formula{1})
	want(t, "Implies of tow and heat", []any{len(v), is, e}, []any{0, true, api.OK})
	v, is, e = options.Implies(m, api.Formula{1}, api.Formula{0})
	want(t, "Implies of heat and tow", []any{v, is, e}, []any{[]bool{false, true, false}, false, api.OK})
	sum, v, e := options.Most(m, []api.Formula{{1}, {2}, {0}}, []int{3, 2, 2})
	want(t, "Most", []any{sum, v, e}, []any{5, []bool{false, true, true}, api.OK})
}

// P1.3: no formulas, no options, no buildable variant.
func TestQuestionsOfEdges(t *testing.T) {
	v, is, e := options.Meets(model(), nil)
	want(t, "Meets of nothing", []any{v, is, e}, []any{[]bool{false, false, true}, true, api.OK})
	v, is, e = options.Meets(api.Model{}, []api.Formula{})
	want(t, "Meets without options", []any{len(v), is, e}, []any{0, true, api.OK})
	v, is, e = options.Meets(without(), nil)
	want(t, "Meets without buildable variants", []any{len(v), is, e}, []any{0, false, api.OK})
	v, is, e = options.Implies(without(), yes, api.Formula{api.No})
	want(t, "Implies without buildable variants", []any{len(v), is, e}, []any{0, true, api.OK})
	v, is, e = options.Implies(api.Model{}, yes, api.Formula{api.No})
	want(t, "Implies without options", []any{len(v), is, e}, []any{0, false, api.OK})
	sum, v, e := options.Most(model(), nil, nil)
	want(t, "Most of nothing", []any{sum, v, e}, []any{0, []bool{false, false, true}, api.OK})
	sum, v, e = options.Most(api.Model{}, []api.Formula{yes, {api.No}}, []int{-7, 100})
	want(t, "Most without options", []any{sum, len(v), e}, []any{-7, 0, api.OK})
	sum, v, e = options.Most(without(), []api.Formula{yes}, []int{1})
	want(t, "Most without buildable variants", []any{sum, len(v), e}, []any{0, 0, api.ErrBuild})
}

// P1.3: limits just reached and just exceeded.
func TestQuestionsLimits(t *testing.T) {
	m := free(api.MaxOptions)
	var l []api.Formula
	var weights []int
	for i := range api.MaxForms {
		l = append(l, api.Formula{i % api.MaxOptions})
		weights = append(weights, api.MaxWeight)
	}
	v, is, e := options.Meets(m, l)
	want(t, "Meets of 200 formulas", []any{len(v), is, e}, []any{api.MaxOptions, true, api.OK})
	sum, _, e := options.Most(m, l, weights)
	want(t, "Most of 200 formulas", []any{sum, e}, []any{api.MaxForms * api.MaxWeight, api.OK})
	for i := range weights {
		weights[i] = -api.MaxWeight
	}
	m.Rules = []api.Formula{{0}, {1}}
	sum, _, e = options.Most(m, l, weights)
	want(t, "Most of 200 formulas below 0", []any{sum, e}, []any{-10 * api.MaxWeight, api.OK})
	l, weights = append(l, nil), append(weights, 2*api.MaxWeight)
	_, _, e = options.Meets(m, l)
	want(t, "Meets of 201 formulas, one of them bad", e, api.ErrMany)
	_, _, e = options.Most(m, l, weights)
	want(t, "Most of 201 formulas, one of them bad", e, api.ErrMany)
}

// P1.3: errors, and which comes first.
func TestQuestionsErrors(t *testing.T) {
	bad := api.Model{Rules: []api.Formula{{0}}}
	_, _, e := options.Meets(bad, make([]api.Formula, api.MaxForms+1))
	want(t, "Meets with a bad model", e, api.ErrFormula)
	_, _, e = options.Meets(api.Model{Options: []string{""}}, make([]api.Formula, api.MaxForms+1))
	want(t, "Meets with a bad name", e, api.ErrOption)
	_, _, e = options.Most(api.Model{Options: []string{""}}, make([]api.Formula, api.MaxForms+1), nil)
	want(t, "Most with a bad name", e, api.ErrOption)
	_, _, e = options.Implies(api.Model{Options: []string{""}}, nil, nil)
	want(t, "Implies with a bad name", e, api.ErrOption)
	for _, f := range badFormulas() {
		_, _, e = options.Meets(model(), []api.Formula{yes, f})
		want(t, "Meets of a bad formula", e, api.ErrFormula)
		_, _, e = options.Implies(model(), f, yes)
		want(t, "Implies of a bad formula", e, api.ErrFormula)
		_, _, e = options.Implies(model(), yes, f)
		want(t, "Implies of a bad second formula", e, api.ErrFormula)
		_, _, e = options.Most(without(), []api.Formula{yes, f}, nil)
		want(t, "Most of a bad formula", e, api.ErrFormula)
	}
	for _, weights := range [][]int{nil, {1}, {1, 2, 3}, {1, api.MaxWeight + 1}, {-api.MaxWeight - 1, 1}, {-1 << 63, 1<<63 - 1}} {
		sum, v, e := options.Most(without(), []api.Formula{yes, yes}, weights)
		want(t, "Most of bad weights", []any{sum, len(v), e}, []any{0, 0, api.ErrArg})
	}
}

// greatest returns what Most should, of some buildable variants.
func greatest(l [][]bool, forms []api.Formula, weights []int) (sum int, v []bool) {
	for i, x := range l {
		s := 0
		for k, f := range forms {
			if meet(x, f) {
				s += weights[k]
			}
		}
		if i == 0 || s > sum {
			sum, v = s, x
		}
	}
	return sum, v
}

// P1.3, P1.9: random questions.
func TestQuestionsRandomly(t *testing.T) {
	randomly(t, func(r *rand.Rand, m api.Model) {
		n := len(m.Options)
		var l []api.Formula
		var weights []int
		for range r.Intn(6) {
			l = append(l, randomFormula(r, n, 1+r.Intn(6)))
			weights = append(weights, r.Intn(9)-4)
		}
		all := built(m, l...)
		v, is, e := options.Meets(m, l)
		want(t, "whether Meets", []any{is, e}, []any{len(all) > 0, api.OK})
		if is {
			want(t, "the variant of Meets", v, all[0])
		}
		f, g := randomFormula(r, n, 1+r.Intn(6)), randomFormula(r, n, 1+r.Intn(6))
		against := built(m, f, not(g))
		v, is, e = options.Implies(m, f, g)
		want(t, "whether Implies", []any{is, e}, []any{len(against) == 0, api.OK})
		if !is {
			want(t, "the variant of Implies", v, against[0])
		}
		all = built(m)
		sum, v, e := options.Most(m, l, weights)
		if len(all) == 0 {
			want(t, "Most", []any{sum, len(v), e}, []any{0, 0, api.ErrBuild})
			return
		}
		shouldSum, should := greatest(all, l, weights)
		want(t, "the sum of Most", []any{sum, e}, []any{shouldSum, api.OK})
		want(t, "the variant of Most", v, should)
	})
}

// P1.9: with all weights 0 Most is the first variant of List.
func TestMostOfZeros(t *testing.T) {
	randomly(t, func(r *rand.Rand, m api.Model) {
		l := []api.Formula{randomFormula(r, len(m.Options), 4), randomFormula(r, len(m.Options), 4)}
		first, _ := options.List(m, yes, 1)
		if sum, v, e := options.Most(m, l, []int{0, 0}); len(first) > 0 {
			want(t, "the sum", []any{sum, e}, []any{0, api.OK})
			want(t, "the variant", v, first[0])
		}
	})
}

// P1.10: Implies is true for f and f, and passes on.
func TestImpliesPassesOn(t *testing.T) {
	randomly(t, func(r *rand.Rand, m api.Model) {
		var l [3]api.Formula
		for i := range l {
			l[i] = randomFormula(r, len(m.Options), 1+r.Intn(3))
		}
		implies := func(a, b int) bool {
			_, is, e := options.Implies(m, l[a], l[b])
			want(t, "the error of Implies", e, api.OK)
			return is
		}
		want(t, "Implies of f and f", implies(0, 0), true)
		if implies(0, 1) && implies(1, 2) {
			want(t, "Implies of f and h", implies(0, 2), true)
		}
	})
}
