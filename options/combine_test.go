package options_test

import (
	"math/rand"
	"slices"
	"testing"

	"ignition/api"
	"ignition/options"
)

// P1.4: the examples of the chapter.
func TestCombinationsOfExample(t *testing.T) {
	m := model()
	fixed, e := options.Fixed(m)
	want(t, "Fixed", []any{fixed, e}, []any{[]int{-1, -1, -1}, api.OK})
	lacks, e := options.Missing(m)
	want(t, "Missing", []any{lacks, e}, []any{[]api.Lack{{A: 0, B: 1, WithA: true}, {A: 0, B: 2, WithA: true, WithB: true}, {A: 1, B: 2}}, api.OK})
	cover, e := options.Cover(m)
	want(t, "Cover", []any{cover, e}, []any{[][]bool{{false, false, true}, {true, true, false}, {false, true, false}, {false, true, true}}, api.OK})
	core, e := options.Core(m, api.Formula{api.And, 0, 2})
	want(t, "Core", []any{core, e}, []any{[]int{1}, api.OK})
}

// P1.4: no options, one option, no buildable variant, rules that are there twice.
func TestCombinationsOfEdges(t *testing.T) {
	none := api.Model{}
	fixed, e := options.Fixed(none)
	want(t, "Fixed without options", []any{len(fixed), e}, []any{0, api.OK})
	_, e = options.Fixed(api.Model{Rules: []api.Formula{{api.No}}})
	want(t, "Fixed without options and variants", e, api.ErrBuild)
	fixed, e = options.Fixed(without())
	want(t, "Fixed without variants", []any{len(fixed), e}, []any{0, api.ErrBuild})
	lacks, e := options.Missing(without())
	want(t, "Missing without variants", []any{len(lacks), lacks[0], lacks[11], e}, []any{12, api.Lack{A: 0, B: 1}, api.Lack{A: 1, B: 2, WithA: true, WithB: true}, api.OK})
	lacks, e = options.Missing(free(1))
	want(t, "Missing of one option", []any{len(lacks), e}, []any{0, api.OK})
	for _, m := range []api.Model{none, without()} {
		cover, e := options.Cover(m)
		want(t, "Cover without options or variants", []any{len(cover), e}, []any{0, api.OK})
	}
	cover, e := options.Cover(free(1))
	want(t, "Cover of one option", []any{cover, e}, []any{[][]bool{{false}, {true}}, api.OK})
	cover, e = options.Cover(api.Model{Options: []string{"a"}, Rules: []api.Formula{{0}}})
	want(t, "Cover of an option that is always taken", []any{cover, e}, []any{[][]bool{{true}}, api.OK})
	core, e := options.Core(without(), yes)
	want(t, "Core without variants", []any{core, e}, []any{[]int{2}, api.OK})
	core, e = options.Core(model(), api.Formula{api.No})
	want(t, "Core of no", []any{len(core), e}, []any{0, api.OK})
	twice := api.Model{Options: []string{"a", "b"}, Rules: []api.Formula{{0}, {1}, {0}, {api.Not, 1}}}
	core, e = options.Core(twice, yes)
	want(t, "Core of rules that say the same", []any{core, e}, []any{[]int{1, 3}, api.OK})
	twice.Rules = twice.Rules[:3]
	core, e = options.Core(twice, api.Formula{api.Not, 0})
	want(t, "Core of a rule that is there twice", []any{core, e}, []any{[]int{2}, api.OK})
}

// P1.4: errors, and which comes first.
func TestCombinationsErrors(t *testing.T) {
	bad := api.Model{Options: []string{"a", "a"}}
	_, e := options.Fixed(bad)
	want(t, "Fixed with a bad model", e, api.ErrOption)
	_, e = options.Missing(bad)
	want(t, "Missing with a bad model", e, api.ErrOption)
	_, e = options.Cover(bad)
	want(t, "Cover with a bad model", e, api.ErrOption)
	_, e = options.Core(bad, nil)
	want(t, "Core with a bad model", e, api.ErrOption)
	for _, f := range badFormulas() {
		_, e = options.Core(model(), f)
		want(t, "Core of a bad formula", e, api.ErrFormula)
	}
	core, e := options.Core(model(), yes)
	want(t, "Core of yes", []any{len(core), e}, []any{0, api.ErrArg})
	core, e = options.Core(api.Model{}, yes)
	want(t, "Core without rules", []any{len(core), e}, []any{0, api.ErrArg})
}

// has reports whether a combination is in one of the variants; a single option is a combination with itself.
func has(l [][]bool, c api.Lack) bool {
	return slices.ContainsFunc(l, func(v []bool) bool { return v[c.A] == c.WithA && v[c.B] == c.WithB })
}

// combinations returns all combinations of two of n options in the order of Missing.
func combinations(n int) []api.Lack {
	var l []api.Lack
	for a := range n {
		for b := a + 1; b < n; b++ {
			l = append(l, api.Lack{A: a, B: b}, api.Lack{A: a, B: b, WithB: true}, api.Lack{A: a, B: b, WithA: true}, api.Lack{A: a, B: b, WithA: true, WithB: true})
		}
	}
	return l
}

// covering returns what Cover should, of all buildable variants.
func covering(n int, all [][]bool) [][]bool {
	var items []api.Lack
	for i := range n {
		items = append(items, api.Lack{A: i, B: i}, api.Lack{A: i, B: i, WithA: true, WithB: true})
	}
	var found [][]bool
	for _, c := range append(items, combinations(n)...) {
		for _, v := range all {
			if !has(found, c) && has([][]bool{v}, c) {
				found = append(found, v)
			}
		}
	}
	return found
}

// remaining returns what Core should.
func remaining(m api.Model, f api.Formula) []int {
	rules := make([]int, len(m.Rules))
	for i := range rules {
		rules[i] = i
	}
	for i := range m.Rules {
		less := slices.DeleteFunc(slices.Clone(rules), func(rule int) bool { return rule == i })
		var left api.Model
		left.Options = m.Options
		for _, rule := range less {
			left.Rules = append(left.Rules, m.Rules[rule])
		}
		if len(built(left, f)) == 0 {
			rules = less
		}
	}
	return rules
}

// P1.4: random models.
func TestCombinationsRandomly(t *testing.T) {
	randomly(t, func(r *rand.Rand, m api.Model) {
		n, all := len(m.Options), built(m)
		fixed, e := options.Fixed(m)
		if len(all) == 0 {
			want(t, "Fixed", []any{len(fixed), e}, []any{0, api.ErrBuild})
		} else {
			should := make([]int, n)
			for i := range should {
				with, left := has(all, api.Lack{A: i, B: i, WithA: true, WithB: true}), has(all, api.Lack{A: i, B: i})
				should[i] = map[[2]bool]int{{true, true}: -1, {true, false}: 1}[[2]bool{with, left}]
			}
			want(t, "Fixed", fixed, should)
			want(t, "the error of Fixed", e, api.OK)
		}
		lacks, e := options.Missing(m)
		want(t, "Missing", lacks, slices.DeleteFunc(combinations(n), func(c api.Lack) bool { return has(all, c) }))
		want(t, "the error of Missing", e, api.OK)
		cover, e := options.Cover(m)
		want(t, "Cover", cover, covering(n, all))
		want(t, "the error of Cover", e, api.OK)
		f := randomFormula(r, n, 1+r.Intn(4))
		core, e := options.Core(m, f)
		if len(built(m, f)) > 0 {
			want(t, "Core", []any{len(core), e}, []any{0, api.ErrArg})
			return
		}
		want(t, "Core", core, remaining(m, f))
		want(t, "the error of Core", e, api.OK)
	})
}

// P1.11: with the rules of Core alone no variant meets the formula, without any of them one does.
func TestCoreIsLeast(t *testing.T) {
	randomly(t, func(r *rand.Rand, m api.Model) {
		f := randomFormula(r, len(m.Options), 2)
		core, e := options.Core(m, f)
		if e != api.OK {
			return
		}
		for without := -1; without < len(core); without++ {
			some := api.Model{Options: m.Options}
			for i, rule := range core {
				if i != without {
					some.Rules = append(some.Rules, m.Rules[rule])
				}
			}
			_, is, _ := options.Meets(some, []api.Formula{f})
			want(t, "whether the formula is met", is, without >= 0)
		}
	})
}

// P1.12: variants of Cover are buildable, and have all that is not missing; also with many options.
func TestCoverHasAll(t *testing.T) {
	look := func(_ *rand.Rand, m api.Model) {
		cover, _ := options.Cover(m)
		lacks, _ := options.Missing(m)
		for _, v := range cover {
			_, is, _ := options.Buildable(m, v)
			want(t, "whether a variant of Cover is buildable", is, true)
		}
		for _, c := range combinations(len(m.Options)) {
			want(t, "whether a combination is covered or missing", has(cover, c) != slices.Contains(lacks, c), true)
		}
	}
	randomly(t, look)
	look(nil, free(api.MaxOptions))
}

// P1.13: what is missing stays missing with one more rule.
func TestMissingStaysMissing(t *testing.T) {
	randomly(t, func(r *rand.Rand, m api.Model) {
		before, _ := options.Missing(m)
		m.Rules = append(m.Rules, randomFormula(r, len(m.Options), 1+r.Intn(5)))
		after, _ := options.Missing(m)
		for _, c := range before {
			want(t, "whether a combination stays missing", slices.Contains(after, c), true)
		}
	})
}
