package options_test

import (
	"math/rand"
	"testing"

	"ignition/api"
	"ignition/options"
)

// These models have 40 options. Their diagrams would be very large if the options were only asked for in their own order,
// or if all variants were tried one by one; what they should be is known from how they are made.

// twins returns a model in which the options i and i + 20 are both taken or both not.
func twins() api.Model {
	m := free(api.MaxOptions)
	for i := range 20 {
		m.Rules = append(m.Rules, api.Formula{api.Same, i, i + 20})
	}
	return m
}

// P1.2, P1.4, P1.5 (and P0.1: they end).
func TestTwins(t *testing.T) {
	m := twins()
	count, e := options.Count(m, yes)
	want(t, "Count", []any{count, e}, []any{1 << 20, api.OK})
	l, e := options.List(m, api.Formula{30}, 2)
	first, second := make([]bool, 40), make([]bool, 40)
	first[10], first[30], second[10], second[30], second[19], second[39] = true, true, true, true, true, true
	want(t, "List", []any{l, e}, []any{[][]bool{first, second}, api.OK})
	lacks, e := options.Missing(m)
	want(t, "how many are missing", []any{len(lacks), e}, []any{40, api.OK})
	want(t, "the first that is missing", lacks[0], api.Lack{A: 0, B: 20, WithB: true})
	_, is, e := options.Implies(m, api.Formula{api.And, 3, 5}, api.Formula{api.And, 25, 23})
	want(t, "Implies", []any{is, e}, []any{true, api.OK})
	_, _, e = options.Diagram(m, yes)
	want(t, "the error of Diagram", e, api.ErrMany)
	m.Rules = append(m.Rules, api.Formula{api.Not, 7})
	fixed, e := options.Fixed(m)
	want(t, "Fixed", []any{fixed[7], fixed[27], fixed[0], e}, []any{0, 0, -1, api.OK})
}

// P1.3: Most, with each pair of twins worth something, and with less when it is alone.
func TestMostOfTwins(t *testing.T) {
	r := rand.New(rand.NewSource(1))
	var l []api.Formula
	var weights []int
	should := make([]bool, api.MaxOptions)
	greatest := 0
	for i := range 20 {
		single, both := r.Intn(1000), r.Intn(4000)-2000
		l = append(l, api.Formula{i}, api.Formula{api.And, i, i + 20})
		weights = append(weights, -single, both)
		if both > single {
			greatest += both - single
			should[i], should[i+20] = true, true
		}
	}
	for _, m := range []api.Model{twins(), free(api.MaxOptions)} {
		sum, v, e := options.Most(m, l, weights)
		want(t, "Most", []any{sum, v, e}, []any{greatest, should, api.OK})
	}
}

// P1.6: all 60 rules with 40 options, eight times just one of five.
func TestGroups(t *testing.T) {
	m := free(api.MaxOptions)
	for g := 0; g < 40; g += 5 {
		some, two := api.Formula{g}, api.Formula{api.No}
		for i := 1; i < 5; i++ {
			some = both(api.Or, some, api.Formula{g + i})
			for k := range i {
				two = both(api.Or, two, api.Formula{api.And, g + i, g + k})
			}
		}
		m.Rules = append(m.Rules, some, not(two))
	}
	for len(m.Rules) < api.MaxRules {
		m.Rules = append(m.Rules, api.Formula{api.Or, 0, api.Not, 0})
	}
	count, e := options.Count(m, yes)
	want(t, "Count", []any{count, e}, []any{390625, api.OK})
	count, e = options.Count(m, api.Formula{api.Or, 0, api.Or, 5, 10})
	want(t, "Count of one of three", []any{count, e}, []any{390625 - 64*3125, api.OK})
	lacks, e := options.Missing(m)
	want(t, "how many are missing", []any{len(lacks), e}, []any{80, api.OK})
	m.Rules[59] = api.Formula{api.No}
	core, e := options.Core(m, both(api.And, api.Formula{3}, api.Formula{4}))
	want(t, "Core", []any{core, e}, []any{[]int{59}, api.OK})
}

// P1.2: parities of all options are the same in whatever order they are written.
func TestParity(t *testing.T) {
	m := free(api.MaxOptions)
	up, down := api.Formula{0}, api.Formula{39}
	for i := 1; i < 40; i++ {
		up, down = both(api.Same, up, api.Formula{i}), both(api.Same, api.Formula{39 - i}, down)
	}
	_, is, e := options.Implies(m, up, down)
	want(t, "Implies", []any{is, e}, []any{true, api.OK})
	_, is, e = options.Implies(m, down, up)
	want(t, "Implies the other way", []any{is, e}, []any{true, api.OK})
	count, e := options.Count(m, up)
	want(t, "Count of one parity", []any{count, e}, []any{1 << 39, api.OK})
	knots, _, e := options.Diagram(m, up)
	want(t, "the diagram of one parity", []any{len(knots), e}, []any{79, api.OK})
}
