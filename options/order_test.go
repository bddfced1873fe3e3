package options

import (
	"fmt"
	"math/rand"
	"slices"
	"testing"

	"ignition/api"
)

// The package looks at options in another order than their own only if it has to, which small models never make it do.
// So these tests choose the order themselves: what is found must not depend on it.

// someFormula returns a formula of n options, which are some.
func someFormula(r *rand.Rand, n, size int) api.Formula {
	switch {
	case size < 2 && r.Intn(8) == 0:
		return api.Formula{api.No + r.Intn(2)}
	case size < 2:
		return api.Formula{r.Intn(n)}
	case r.Intn(5) == 0:
		return append(api.Formula{api.Not}, someFormula(r, n, size-1)...)
	}
	left := 1 + r.Intn(size-1)
	return append(append(api.Formula{api.Same + r.Intn(3)}, someFormula(r, n, left)...), someFormula(r, n, size-left)...)
}

// found returns all that diagrams in an order find out.
func found(order []int, rules, l []api.Formula, weights []int) string {
	d := newDiagrams(order, 1<<30)
	k := d.all(rules...)
	choices := make([]choice, len(order))
	s := fmt.Sprint(d.count(k), d.first(k, choices, 7), d.missing(k), d.cover(k))
	left, meets := d.core(rules, l[0])
	s += fmt.Sprint(left, meets)
	if k != no {
		sum, v := d.most(k, l, weights)
		s += fmt.Sprint(d.fixed(k), sum, v)
	}
	u := unfolder{diagrams: d, numbers: map[knot]int{}}
	return s + fmt.Sprint(u.number(k, 0), u.knots)
}

// P1.2 to P1.5, whatever the order.
func TestOrderShowsNowhere(t *testing.T) {
	r := rand.New(rand.NewSource(1))
	for range 2000 {
		n := 1 + r.Intn(7)
		var rules, l []api.Formula
		for range r.Intn(4) {
			rules = append(rules, someFormula(r, n, 1+r.Intn(8)))
		}
		var weights []int
		for range 1 + r.Intn(8) {
			l = append(l, someFormula(r, n, 1+r.Intn(8)))
			weights = append(weights, r.Intn(11)-5)
		}
		should := found(own(n), rules, l, weights)
		for _, order := range [][]int{r.Perm(n), gathered(n, append(rules, l...)...)} {
			if got := found(order, rules, l, weights); got != should {
				t.Fatalf("in the order %v with the rules %v and the formulas %v, weights %v:\n%v\n%v", order, rules, l, weights, got, should)
			}
		}
	}
}

// gathered returns each option once, and brings those of the same terms together.
func TestGathered(t *testing.T) {
	var l []api.Formula
	for i := range 20 {
		l = append(l, api.Formula{api.Same, 39 - i, i})
	}
	order := gathered(40, l...)
	for i := 0; i < 40; i += 2 {
		if order[i]+order[i+1] != 39 {
			t.Errorf("the options %d and %d stand together", order[i], order[i+1])
		}
	}
	slices.Sort(order)
	if !slices.Equal(order, own(40)) {
		t.Errorf("the options are %v", order)
	}
	if order := gathered(3, api.Formula{2}); len(order) != 3 {
		t.Errorf("of three options there are %v", order)
	}
	if order := gathered(0, api.Formula{api.Yes}); len(order) != 0 {
		t.Errorf("of no options there are %v", order)
	}
}

// Only what diagrams panic with themselves is taken for a lack of steps.
func TestAttempt(t *testing.T) {
	if attempt(own(2), 0, func(d *diagrams) { d.of(api.Formula{api.And, 0, 1}) }) {
		t.Error("And of two options takes no step")
	}
	if !attempt(own(2), 1, func(d *diagrams) { d.of(api.Formula{api.And, 0, 1}) }) {
		t.Error("And of two options takes more than a step")
	}
	defer func() {
		if p := recover(); p != "other" {
			t.Errorf("the panic is %v", p)
		}
	}()
	attempt(nil, 1, func(d *diagrams) { panic("other") })
}
