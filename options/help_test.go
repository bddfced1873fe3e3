package options_test

import (
	"fmt"
	"math/rand"
	"reflect"
	"strconv"
	"testing"

	"ignition/api"
)

// The tests compare the package with plain definitions that try all variants one by one.

// yes holds in every variant.
var yes = api.Formula{api.Yes}

// model is that of the chapter's examples: 0 tow, 1 heat, 2 led.
func model() api.Model {
	return api.Model{Options: []string{"tow", "heat", "led"}, Rules: []api.Formula{{api.Or, 1, 2}, {api.Not, api.And, 0, 2}}}
}

// without returns the model of the examples with no buildable variant.
func without() api.Model {
	m := model()
	m.Rules = append(m.Rules, api.Formula{api.No})
	return m
}

// free returns a model of n options without rules.
func free(n int) api.Model {
	var m api.Model
	for i := range n {
		m.Options = append(m.Options, "o"+strconv.Itoa(i))
	}
	return m
}

// nots returns a formula of n numbers.
func nots(n int) api.Formula {
	f := make(api.Formula, n)
	for i := range n - 1 {
		f[i] = api.Not
	}
	return f
}

// both returns the formula with an operator and two operands.
func both(operator int, x, y api.Formula) api.Formula {
	return append(append(api.Formula{operator}, x...), y...)
}

func not(x api.Formula) api.Formula { return append(api.Formula{api.Not}, x...) }

// crossed returns Or of And of the options i and i + n, for the i below n: its diagram has 2^(n+1) - 2 knots.
func crossed(n int) api.Formula {
	f := api.Formula{api.And, 0, n}
	for i := 1; i < n; i++ {
		f = both(api.Or, f, api.Formula{api.And, i, i + n})
	}
	return f
}

// value works out the first term of a formula, and returns what is behind it.
func value(f api.Formula, v []bool) (is bool, rest api.Formula) {
	number, rest := f[0], f[1:]
	var x, y bool
	switch number {
	case api.Yes, api.No:
		return number == api.Yes, rest
	case api.Not:
		x, rest = value(rest, v)
		return !x, rest
	case api.And, api.Or, api.Same:
		x, rest = value(rest, v)
		y, rest = value(rest, v)
	default:
		return v[number], rest
	}
	return number == api.And && x && y || number == api.Or && (x || y) || number == api.Same && x == y, rest
}

// meet reports whether all formulas hold in a variant.
func meet(v []bool, l ...api.Formula) bool {
	for _, f := range l {
		if is, _ := value(f, v); !is {
			return false
		}
	}
	return true
}

// variants returns all variants of n options, in order.
func variants(n int) [][]bool {
	l := make([][]bool, 1<<n)
	for i := range l {
		l[i] = make([]bool, n)
		for option := range n {
			l[i][option] = i>>(n-1-option)&1 == 1
		}
	}
	return l
}

// built returns the buildable variants in which all formulas hold, in order.
func built(m api.Model, l ...api.Formula) [][]bool {
	var found [][]bool
	for _, v := range variants(len(m.Options)) {
		if meet(v, m.Rules...) && meet(v, l...) {
			found = append(found, v)
		}
	}
	return found
}

// randomFormula returns a formula of at most 2 size - 1 numbers without Not, and a few more with it.
func randomFormula(r *rand.Rand, n, size int) api.Formula {
	if r.Intn(5) == 0 {
		return not(randomFormula(r, n, size))
	}
	if size < 2 {
		if n == 0 || r.Intn(8) == 0 {
			return api.Formula{api.No + r.Intn(2)}
		}
		return api.Formula{r.Intn(n)}
	}
	left := 1 + r.Intn(size-1)
	return both(api.Same+r.Intn(3), randomFormula(r, n, left), randomFormula(r, n, size-left))
}

// randomModel returns a model of at most 6 options; most models have buildable variants.
func randomModel(r *rand.Rand) api.Model {
	m := free(r.Intn(7))
	for range r.Intn(5) {
		m.Rules = append(m.Rules, randomFormula(r, len(m.Options), 1+r.Intn(5)))
	}
	return m
}

// randomly calls what looks at one random model many times.
func randomly(t *testing.T, look func(r *rand.Rand, m api.Model)) {
	r := rand.New(rand.NewSource(1))
	for range 3000 {
		look(r, randomModel(r))
		if t.Failed() {
			return
		}
	}
}

// same compares results; nil and empty lists are the same.
func same(a, b any) bool {
	return fmt.Sprintf("%#v", a) == fmt.Sprintf("%#v", b) || empty(a) && empty(b)
}

func empty(a any) bool {
	v := reflect.ValueOf(a)
	return v.Kind() == reflect.Slice && v.Len() == 0
}

// want reports a result that is not what it should be.
func want(t *testing.T, what string, got, should any) {
	t.Helper()
	if !same(got, should) {
		t.Errorf("%s is %v; it should be %v", what, got, should)
	}
}
