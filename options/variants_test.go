package options_test

import (
	"math/rand"
	"testing"

	"ignition/api"
	"ignition/options"
)

// P1.2: the examples of the chapter.
func TestVariantsOfExample(t *testing.T) {
	m := model()
	l, e := options.List(m, yes, 8)
	want(t, "List of yes", l, [][]bool{{false, false, true}, {false, true, false}, {false, true, true}, {true, true, false}})
	want(t, "the error of List", e, api.OK)
	for _, x := range []struct {
		f     api.Formula
		count int
	}{{yes, 4}, {api.Formula{0}, 1}, {api.Formula{api.Same, 0, 2}, 1}, {api.Formula{api.No}, 0}} {
		count, e := options.Count(m, x.f)
		want(t, "Count", count, x.count)
		want(t, "the error of Count", e, api.OK)
	}
	rule, is, e := options.Buildable(m, []bool{true, false, true})
	want(t, "Buildable of tow led", []any{rule, is, e}, []any{1, false, api.OK})
	rule, is, e = options.Buildable(m, []bool{false, false, false})
	want(t, "Buildable of none", []any{rule, is, e}, []any{0, false, api.OK})
	rule, is, e = options.Buildable(m, []bool{true, true, false})
	want(t, "Buildable of tow heat", []any{rule, is, e}, []any{-1, true, api.OK})
}

// P1.2: models without options, without rules and without buildable variants.
func TestVariantsOfEdges(t *testing.T) {
	none := api.Model{}
	count, _ := options.Count(none, yes)
	want(t, "Count without options", count, 1)
	count, _ = options.Count(none, api.Formula{api.No})
	want(t, "Count of no without options", count, 0)
	l, e := options.List(none, yes, 1)
	want(t, "how many List returns without options", len(l), 1)
	want(t, "the variant without options", l[0], []bool{})
	want(t, "the error of List", e, api.OK)
	l, e = options.List(none, api.Formula{api.No}, 1)
	want(t, "List of no", l, [][]bool{})
	want(t, "the error of List", e, api.OK)
	rule, is, e := options.Buildable(none, nil)
	want(t, "Buildable without options", []any{rule, is, e}, []any{-1, true, api.OK})
	count, e = options.Count(without(), yes)
	want(t, "Count without buildable variants", []any{count, e}, []any{0, api.OK})
	l, e = options.List(without(), yes, 64)
	want(t, "List without buildable variants", l, [][]bool{})
	want(t, "the error of List", e, api.OK)
	count, e = options.Count(free(api.MaxOptions), yes)
	want(t, "Count of 40 options", []any{count, e}, []any{1 << 40, api.OK})
	count, e = options.Count(free(api.MaxOptions), api.Formula{api.Or, 3, 37})
	want(t, "Count of one of two options", []any{count, e}, []any{3 << 38, api.OK})
	l, e = options.List(free(api.MaxOptions), yes, api.MaxList)
	want(t, "how many List returns of many", []any{len(l), e}, []any{api.MaxList, api.OK})
}

// P1.2: errors, and which comes first.
func TestVariantsErrors(t *testing.T) {
	bad, short, long := api.Model{Options: []string{"a", "a"}}, []bool{true}, make([]bool, 4)
	for _, f := range badFormulas() {
		_, e := options.Count(model(), f)
		want(t, "Count of a bad formula", e, api.ErrFormula)
		_, e = options.List(model(), f, 0)
		want(t, "List of a bad formula and a bad number", e, api.ErrFormula)
		_, e = options.Holds(model(), f, short)
		want(t, "Holds of a bad formula and variant", e, api.ErrFormula)
	}
	_, e := options.Count(bad, nil)
	want(t, "Count with a bad model", e, api.ErrOption)
	_, e = options.List(bad, nil, 0)
	want(t, "List with a bad model", e, api.ErrOption)
	_, e = options.Holds(bad, nil, nil)
	want(t, "Holds with a bad model", e, api.ErrOption)
	rule, is, e := options.Buildable(bad, nil)
	want(t, "Buildable with a bad model", []any{rule, is, e}, []any{0, false, api.ErrOption})
	for _, v := range [][]bool{nil, short, long} {
		_, e = options.Holds(model(), yes, v)
		want(t, "Holds in a variant of another length", e, api.ErrArg)
		rule, is, e = options.Buildable(model(), v)
		want(t, "Buildable of a variant of another length", []any{rule, is, e}, []any{0, false, api.ErrArg})
	}
	for _, most := range []int{-1, 0, api.MaxList + 1} {
		l, e := options.List(model(), yes, most)
		want(t, "the error of List", e, api.ErrArg)
		want(t, "how many List returns with an error", len(l), 0)
	}
}

// P1.2: all variants of random models.
func TestVariantsRandomly(t *testing.T) {
	randomly(t, func(r *rand.Rand, m api.Model) {
		f := randomFormula(r, len(m.Options), 1+r.Intn(8))
		should := built(m, f)
		count, e := options.Count(m, f)
		want(t, "Count", []any{count, e}, []any{len(should), api.OK})
		most := 1 + r.Intn(api.MaxList)
		l, e := options.List(m, f, most)
		want(t, "List", l, should[:min(most, len(should))])
		want(t, "the error of List", e, api.OK)
		for _, v := range variants(len(m.Options)) {
			is, e := options.Holds(m, f, v)
			want(t, "Holds", []any{is, e}, []any{meet(v, f), api.OK})
			first := -1
			for i, rule := range m.Rules {
				if !meet(v, rule) {
					first = i
					break
				}
			}
			rule, is, e := options.Buildable(m, v)
			want(t, "Buildable", []any{rule, is, e}, []any{first, first < 0, api.OK})
		}
	})
}

// P1.6: counts of formulas that belong together, and List with Count.
func TestCountsAddUp(t *testing.T) {
	count := func(m api.Model, f api.Formula) int {
		n, e := options.Count(m, f)
		want(t, "the error of Count", e, api.OK)
		return n
	}
	look := func(r *rand.Rand, m api.Model) {
		n := len(m.Options)
		f, g := randomFormula(r, n, 1+r.Intn(8)), randomFormula(r, n, 1+r.Intn(8))
		want(t, "Count of f and of Not f", count(m, f)+count(m, not(f)), count(m, yes))
		want(t, "Count of Or and And", count(m, both(api.Or, f, g))+count(m, both(api.And, f, g)), count(m, f)+count(m, g))
		l, _ := options.List(m, f, 7)
		want(t, "how many List returns", len(l), min(7, count(m, f)))
		for _, v := range l {
			_, is, _ := options.Buildable(m, v)
			holds, _ := options.Holds(m, f, v)
			want(t, "Buildable and Holds of a variant of List", []bool{is, holds}, []bool{true, true})
		}
	}
	randomly(t, look)
	r := rand.New(rand.NewSource(2))
	for range 20 {
		m := free(api.MaxOptions)
		for range 10 {
			m.Rules = append(m.Rules, randomFormula(r, api.MaxOptions, 4))
		}
		look(r, m)
	}
}

// P1.13: one more rule makes no count greater.
func TestMoreRulesCountLess(t *testing.T) {
	randomly(t, func(r *rand.Rand, m api.Model) {
		n := len(m.Options)
		f := randomFormula(r, n, 1+r.Intn(5))
		before, _ := options.Count(m, f)
		m.Rules = append(m.Rules, randomFormula(r, n, 1+r.Intn(5)))
		if after, _ := options.Count(m, f); after > before {
			t.Errorf("Count is %d with a rule more, %d before", after, before)
		}
	})
}
