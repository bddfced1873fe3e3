package options_test

import (
	"fmt"
	"math"
	"strings"
	"testing"

	"ignition/api"
	"ignition/options"
)

// results calls every function of the package, and returns all that they return.
func results(m api.Model, l []api.Formula, v []bool, numbers []int, knots []api.Knot, text string) []any {
	var f, g api.Formula
	if len(l) > 1 {
		f, g = l[0], l[1]
	}
	var all []any
	add := func(results ...any) { all = append(all, results) }
	add(options.CheckModel(m))
	add(options.CheckFormula(m, f))
	s, e := options.Format(m, f)
	add(s, e)
	x, e := options.Parse(m, text)
	add(x, e)
	is, e := options.Holds(m, f, v)
	add(is, e)
	rule, is, e := options.Buildable(m, v)
	add(rule, is, e)
	count, e := options.Count(m, f)
	add(count, e)
	fixed, e := options.Fixed(m)
	add(fixed, e)
	lacks, e := options.Missing(m)
	add(lacks, e)
	cover, e := options.Cover(m)
	add(cover, e)
	core, e := options.Core(m, f)
	add(core, e)
	w, is, e := options.Meets(m, l)
	add(w, is, e)
	w, is, e = options.Implies(m, f, g)
	add(w, is, e)
	sum, w, e := options.Most(m, l, numbers)
	add(sum, w, e)
	found, root, e := options.Diagram(m, f)
	add(found, root, e)
	for _, number := range append(numbers, 0) {
		list, e := options.List(m, f, number)
		add(list, e)
		is, e := options.Follow(m, knots, number, v)
		add(is, e)
	}
	return all
}

// argument is a list of arguments for all functions.
type argument struct {
	m       api.Model
	l       []api.Formula
	v       []bool
	numbers []int
	knots   []api.Knot
	text    string
}

func (a argument) String() string {
	return fmt.Sprintf("%#v %#v %#v %#v %#v %.200q", a.m, a.l, a.v, a.numbers, a.knots, a.text)
}

func arguments() []argument {
	many := free(api.MaxOptions + 1)
	ruled := model()
	for range api.MaxRules {
		ruled.Rules = append(ruled.Rules, api.Formula{0})
	}
	models := []api.Model{{}, model(), without(), free(1), free(6), many, ruled, {Options: []string{"\x00"}}, {Rules: []api.Formula{nil}}}
	lists := [][]api.Formula{nil, {nil, nil}, {yes, yes}, {{0}, {api.Not, 0}}, {{api.And, 0, 0}, {api.No}}, {{math.MinInt}, {math.MaxInt}}, {yes, {api.Same}}, make([]api.Formula, api.MaxForms+1), badFormulas()}
	numbers := [][]int{nil, {1, 2}, {-1, -2}, {math.MinInt, math.MaxInt}, {2000000, 0}, {64, 65}}
	knots := [][]api.Knot{nil, {{}}, {{Option: 0, Low: -1, High: -2}}, {{Option: 0, Low: 5, High: -5}}, {{Option: math.MinInt, Low: math.MinInt, High: math.MaxInt}}, make([]api.Knot, api.MaxKnots+1)}
	texts := []string{"", "!", "(a & b)", "tow", "\xff\xfe", strings.Repeat("(", api.MaxText), strings.Repeat("!", api.MaxText+1)}
	var all []argument
	for i, m := range models {
		for k, l := range lists {
			for x := range numbers {
				v := make([]bool, []int{len(m.Options), 0, 3, 100}[(i+k+x)%4])
				all = append(all, argument{m, l, v, numbers[x], knots[(x+k)%len(knots)], texts[(x+k+i)%len(texts)]})
			}
		}
	}
	return all
}

// P0.1: every function ends, for all arguments; results depend on arguments alone, which are not changed.
func TestAllArguments(t *testing.T) {
	for _, a := range arguments() {
		before := a.String()
		first := fmt.Sprint(results(a.m, a.l, a.v, a.numbers, a.knots, a.text)...)
		second := fmt.Sprint(results(a.m, a.l, a.v, a.numbers, a.knots, a.text)...)
		want(t, "the second result", second, first)
		want(t, "the arguments", a.String(), before)
	}
}

// P0.1, with the rule R2: with an error every other result is its zero value.
func TestZeroWithErrors(t *testing.T) {
	for _, a := range arguments() {
		for i, r := range results(a.m, a.l, a.v, a.numbers, a.knots, a.text) {
			l := r.([]any)
			if l[len(l)-1] == api.OK {
				continue
			}
			for _, x := range l[:len(l)-1] {
				if x != 0 && x != false && x != "" && !empty(x) {
					t.Fatalf("function %d returns %v", i, l)
				}
			}
		}
	}
}

// The rule R4: what is done with results and with spare capacity of arguments shows nowhere else.
func TestResultsAreNew(t *testing.T) {
	m := model()
	rules := append(make([]api.Formula, 0, 10), m.Rules...)
	spare := rules[:3]
	m.Rules = rules
	options.Count(m, yes)
	options.Core(m, api.Formula{api.No})
	options.Implies(m, yes, yes)
	want(t, "what stands behind the rules", len(spare[2]), 0)
	l, _ := options.List(m, yes, 4)
	l[0][0], l[1][0] = true, true
	again, _ := options.List(m, yes, 4)
	want(t, "List", again[:2], [][]bool{{false, false, true}, {false, true, false}})
	want(t, "another variant of List", l[2], []bool{false, true, true})
	f, _ := options.Parse(m, "tow")
	f[0] = 7
	again2, _ := options.Parse(m, "tow")
	want(t, "Parse", again2, api.Formula{0})
}
