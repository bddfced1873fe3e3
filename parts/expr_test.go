package parts_test

import (
	"math"
	"math/rand"
	"slices"
	"strconv"
	"testing"

	"ignition/api"
	"ignition/parts"
)

// meter has inputs with all sorts of signs: 0 i from -3 to 5, 1 j from 2 to 4, 2 k from -9 to -6, 3 l from 0 to 0, and keeps m from 4 to 7.
func meter() api.Part {
	return api.Part{
		Name: "meter", Every: 1,
		In:   []api.Port{port("i", -3, 5, 0), port("j", 2, 4, 3), port("k", -9, -6, -7), port("l", 0, 0, 0)},
		Keep: []api.Port{port("m", 4, 7, 5)},
		Acts: []api.Act{{Keep: []api.Expr{kept(0)}, Next: num(0)}},
	}
}

// boundsOf returns all results of Bounds.
func boundsOf(p api.Part, x api.Expr) []any {
	low, high, e := parts.Bounds(p, x)
	return results(low, high, e)
}

// power is an expression with a value of 2^exponent.
func power(exponent int) api.Expr {
	if exponent < 20 {
		return num(1 << exponent)
	}
	return do(api.Mul, power(exponent-exponent/2), power(exponent/2))
}

// P2.2: the bounds of each operation.
func TestBounds(t *testing.T) {
	i, j, k, l, m := input(0), input(1), input(2), input(3), kept(0)
	for n, c := range []struct {
		x         api.Expr
		low, high int
	}{
		{num(-7), -7, -7}, {num(1000000), 1000000, 1000000}, {num(-1000000), -1000000, -1000000}, {k, -9, -6}, {m, 4, 7},
		{do(api.Add, i, j), -1, 9}, {do(api.Add, k, m), -5, 1}, {do(api.Sub, i, j), -7, 3}, {do(api.Sub, j, i), -3, 7}, {do(api.Sub, i, i), -8, 8},
		{do(api.Mul, i, j), -12, 20}, {do(api.Mul, j, i), -12, 20}, {do(api.Mul, i, k), -45, 27}, {do(api.Mul, k, k), 36, 81}, {do(api.Mul, i, i), -15, 25}, {do(api.Mul, j, k), -36, -12}, {do(api.Mul, l, k), 0, 0},
		{do(api.Min, i, j), -3, 4}, {do(api.Min, j, i), -3, 4}, {do(api.Min, m, j), 2, 4}, {do(api.Max, i, j), 2, 5}, {do(api.Max, j, i), 2, 5}, {do(api.Max, k, j), 2, 4},
		{do(api.Less, k, j), 1, 1}, {do(api.Less, j, k), 0, 0}, {do(api.Less, i, j), 0, 1}, {do(api.Less, j, m), 0, 1}, {do(api.Less, m, j), 0, 0}, {do(api.Less, l, l), 0, 0}, {do(api.Less, j, num(5)), 1, 1}, {do(api.Less, j, num(4)), 0, 1}, {do(api.Less, j, num(2)), 0, 0}, {do(api.Less, j, num(3)), 0, 1},
		{do(api.Equal, l, l), 1, 1}, {do(api.Equal, i, i), 0, 1}, {do(api.Equal, j, m), 0, 1}, {do(api.Equal, m, j), 0, 1}, {do(api.Equal, k, j), 0, 0}, {do(api.Equal, j, k), 0, 0}, {do(api.Equal, j, num(2)), 0, 1}, {do(api.Equal, num(4), j), 0, 1}, {do(api.Equal, num(5), j), 0, 0}, {do(api.Equal, j, num(5)), 0, 0}, {do(api.Equal, num(1), j), 0, 0},
		{do(api.Equal, i, num(-3)), 0, 1}, {do(api.Equal, num(1), num(2)), 0, 0}, {do(api.Equal, num(2), num(2)), 1, 1},
		{do(api.If, l, j, k), -9, -6}, {do(api.If, j, j, k), 2, 4}, {do(api.If, k, j, m), 2, 4}, {do(api.If, i, j, k), -9, 4}, {do(api.If, i, k, j), -9, 4}, {do(api.If, num(1), m, k), 4, 7}, {do(api.If, num(-1), m, k), 4, 7},
		{do(api.If, do(api.Max, num(0), i), m, j), 2, 7}, {do(api.If, do(api.Min, num(0), i), j, m), 2, 7},
	} {
		want(t, "Bounds "+strconv.Itoa(n), boundsOf(meter(), c.x), results(c.low, c.high, api.OK))
	}
	want(t, "Bounds of the example", boundsOf(brake(), brake().Acts[0].Out[0]), results(0, 200, api.OK))
}

// P2.2: Check's error comes first.
func TestBoundsErrors(t *testing.T) {
	p := meter()
	p.Level = 9
	want(t, "Bounds of no part", boundsOf(p, ops()), results(0, 0, api.ErrPart))
	p = meter()
	p.In[0].Name = "m"
	want(t, "Bounds of bad ports", boundsOf(p, ops()), results(0, 0, api.ErrPort))
	p = meter()
	p.Acts[0].Next = num(1)
	want(t, "Bounds of a part out of range", boundsOf(p, ops()), results(0, 0, api.ErrRange))
}

// P2.1, P2.2, P2.3: what is well formed.
func TestWellFormed(t *testing.T) {
	one := api.Op{Kind: api.Const, Value: 1}
	chain := func(n int) api.Expr {
		x := num(0)
		for len(x.Ops) < n {
			x = do(api.Max, x, num(0))
		}
		return x
	}
	even := do(api.If, chain(21), num(0), num(1))
	want(t, "the number of operations", len(even.Ops), 24)
	cases := []struct {
		x api.Expr
		e api.Errno
	}{
		{chain(1), api.OK}, {chain(23), api.OK}, {even, api.OK}, {chain(25), api.ErrExpr}, {ops(), api.ErrExpr},
		{ops(one, one), api.ErrExpr}, {ops(one, one, one), api.ErrExpr}, {ops(one, one, one, api.Op{Kind: api.Add}), api.ErrExpr},
		{ops(api.Op{Kind: api.If}), api.ErrExpr}, {ops(one, api.Op{Kind: api.If}), api.ErrExpr}, {ops(one, one, api.Op{Kind: api.If}), api.ErrExpr}, {ops(one, one, one, api.Op{Kind: api.If}), api.OK}, {ops(one, one, one, one, api.Op{Kind: api.If}), api.ErrExpr},
		{ops(one, api.Op{Kind: api.Add}, one), api.ErrExpr}, {ops(api.Op{Kind: api.Add}, one, one), api.ErrExpr},
		{ops(api.Op{Kind: 0}), api.ErrExpr}, {ops(one, one, one, api.Op{Kind: 12}), api.ErrExpr}, {ops(one, one, api.Op{Kind: 12}), api.ErrExpr}, {ops(api.Op{Kind: -1}), api.ErrExpr}, {ops(api.Op{Kind: math.MinInt}), api.ErrExpr}, {ops(api.Op{Kind: math.MaxInt}), api.ErrExpr},
		{ops(one, one, api.Op{Kind: 0}), api.ErrExpr}, {ops(one, one, api.Op{Kind: math.MinInt}), api.ErrExpr},
		{num(1000000), api.OK}, {num(-1000000), api.OK}, {num(1000001), api.ErrExpr}, {num(-1000001), api.ErrExpr}, {num(math.MinInt), api.ErrExpr}, {num(math.MaxInt), api.ErrExpr},
		{input(0), api.OK}, {input(3), api.OK}, {input(4), api.ErrExpr}, {input(-1), api.ErrExpr}, {input(math.MinInt), api.ErrExpr}, {input(math.MaxInt), api.ErrExpr},
		{kept(0), api.OK}, {kept(1), api.ErrExpr}, {kept(-1), api.ErrExpr}, {kept(math.MinInt), api.ErrExpr}, {kept(math.MaxInt), api.ErrExpr},
	}
	for kind := api.Add; kind <= api.If; kind++ {
		l := slices.Repeat([]api.Op{one}, operands(kind))
		for _, v := range []int{1, -1, math.MinInt, math.MaxInt} {
			cases = append(cases, struct {
				x api.Expr
				e api.Errno
			}{ops(append(slices.Clone(l), api.Op{Kind: kind, Value: v})...), api.ErrExpr})
		}
		cases = append(cases, struct {
			x api.Expr
			e api.Errno
		}{ops(append(l, api.Op{Kind: kind})...), api.OK}, struct {
			x api.Expr
			e api.Errno
		}{ops(append(l[1:], api.Op{Kind: kind})...), api.ErrExpr})
	}
	for n, c := range cases {
		p := meter()
		_, _, e := parts.Bounds(p, c.x)
		want(t, "the error of Bounds "+strconv.Itoa(n), e, c.e)
		_, e = parts.Eval(p, c.x, []int{0, 2, -9, 0}, []int{4})
		want(t, "the error of Eval "+strconv.Itoa(n), e, c.e)
		p.Out = []api.Port{port("o", -1000000, 1000000, 0)}
		p.Acts[0].Out = []api.Expr{c.x}
		want(t, "Check "+strconv.Itoa(n), parts.Check(p), c.e)
	}
}

// P2.1, P2.2, P2.3: a bound of an operation that is out of range, even if the expression is not, and even if 64 bits do not hold it.
func TestFarBounds(t *testing.T) {
	most := do(api.Mul, num(1000000), num(1000000))
	least := do(api.Mul, num(-1000000), num(1000000))
	zero := num(0)
	for n, c := range []struct {
		x api.Expr
		e api.Errno
	}{
		{most, api.OK}, {least, api.OK}, {do(api.Mul, num(-1000000), num(-1000000)), api.OK},
		{do(api.Sub, most, most), api.OK}, {do(api.Add, most, least), api.OK}, {do(api.Add, most, zero), api.OK}, {do(api.Mul, most, num(1)), api.OK}, {do(api.Mul, least, num(-1)), api.OK}, {do(api.Mul, zero, most), api.OK}, {do(api.Mul, least, zero), api.OK},
		{do(api.Add, most, num(1)), api.ErrRange}, {do(api.Sub, least, num(1)), api.ErrRange}, {do(api.Add, least, num(-1)), api.ErrRange}, {do(api.Sub, most, num(-1)), api.ErrRange},
		{do(api.Mul, most, num(2)), api.ErrRange}, {do(api.Mul, most, num(-2)), api.ErrRange}, {do(api.Mul, least, num(2)), api.ErrRange}, {do(api.Mul, num(2), least), api.ErrRange},
		{do(api.Mul, most, most), api.ErrRange}, {do(api.Mul, least, least), api.ErrRange}, {do(api.Mul, most, least), api.ErrRange},
		{do(api.Mul, power(32), power(32)), api.ErrRange}, {do(api.Mul, power(39), power(39)), api.ErrRange}, {do(api.Mul, power(39), power(25)), api.ErrRange}, {do(api.Mul, power(39), power(24)), api.ErrRange},
		{do(api.Min, zero, do(api.Add, most, num(1))), api.ErrRange}, {do(api.Max, do(api.Sub, least, num(1)), zero), api.ErrRange}, {do(api.Sub, do(api.Add, most, num(1)), num(1)), api.ErrRange},
		{do(api.If, zero, do(api.Add, most, num(1)), zero), api.ErrRange}, {do(api.If, num(1), zero, do(api.Add, most, num(1))), api.ErrRange},
		{do(api.Mul, zero, do(api.Mul, most, most)), api.ErrRange}, {do(api.Less, do(api.Mul, most, num(2)), zero), api.ErrRange},
		{do(api.Add, do(api.Mul, most, input(0)), zero), api.ErrRange}, {do(api.Mul, most, do(api.Less, input(0), zero)), api.OK}, {do(api.Mul, most, do(api.Min, input(0), zero)), api.ErrRange},
	} {
		_, _, e := parts.Bounds(meter(), c.x)
		want(t, "the error of Bounds "+strconv.Itoa(n), e, c.e)
		_, e = parts.Eval(meter(), c.x, []int{0, 2, -9, 0}, []int{4})
		want(t, "the error of Eval "+strconv.Itoa(n), e, c.e)
		p := meter()
		p.Acts[0].Next = do(api.Mul, zero, c.x)
		want(t, "Check "+strconv.Itoa(n), parts.Check(p), c.e)
	}
	want(t, "the greatest bounds", boundsOf(meter(), most), results(1000000000000, 1000000000000, api.OK))
	want(t, "the least bounds", boundsOf(meter(), least), results(-1000000000000, -1000000000000, api.OK))
}

// P2.2: bounds are those of the plain definition.
func TestRandomBounds(t *testing.T) {
	r := rand.New(rand.NewSource(2))
	p := meter()
	p.In[0] = port("i", -1000000, 300000, 0)
	p.In[1] = port("j", 0, 1000000, 3)
	far := 0
	for range 20000 {
		x := randomExpr(r, p, 1+r.Intn(24))
		low, high, is := limits(p, x.Ops)
		should := results(low, high, api.OK)
		if is {
			should = results(0, 0, api.ErrRange)
			far++
		}
		want(t, "Bounds of "+text(p, x.Ops), boundsOf(p, x), should)
		if t.Failed() {
			return
		}
	}
	if far < 100 {
		t.Errorf("%d expressions are out of range", far)
	}
}

// evalOf returns all results of Eval.
func evalOf(p api.Part, x api.Expr, in, keep []int) []any {
	v, e := parts.Eval(p, x, in, keep)
	return results(v, e)
}

// P2.3: the value of each operation.
func TestEval(t *testing.T) {
	p := meter()
	in, keep := []int{-2, 3, -8, 0}, []int{6}
	i, j, k, l, m := input(0), input(1), input(2), input(3), kept(0)
	for n, c := range []struct {
		x api.Expr
		v int
	}{
		{num(-5), -5}, {i, -2}, {k, -8}, {m, 6}, {do(api.Add, i, j), 1}, {do(api.Sub, i, j), -5}, {do(api.Sub, j, i), 5}, {do(api.Mul, i, k), 16}, {do(api.Min, i, j), -2}, {do(api.Min, j, i), -2}, {do(api.Max, i, j), 3}, {do(api.Max, j, i), 3},
		{do(api.Less, i, j), 1}, {do(api.Less, j, i), 0}, {do(api.Less, i, i), 0}, {do(api.Equal, i, i), 1}, {do(api.Equal, i, j), 0}, {do(api.Equal, j, i), 0},
		{do(api.If, l, i, j), 3}, {do(api.If, i, m, j), 6}, {do(api.If, j, k, m), -8}, {do(api.Sub, do(api.Sub, i, j), do(api.Sub, k, m)), 9},
		{do(api.Mul, num(1000000), num(-1000000)), -1000000000000},
	} {
		want(t, "Eval "+strconv.Itoa(n), evalOf(p, c.x, in, keep), results(c.v, api.OK))
	}
}

// P2.3: there is a value within its range for each input and kept thing.
func TestEvalErrors(t *testing.T) {
	p := meter()
	for n, c := range []struct {
		in, keep []int
		e        api.Errno
	}{
		{[]int{-3, 2, -9, 0}, []int{4}, api.OK}, {[]int{5, 4, -6, 0}, []int{7}, api.OK},
		{[]int{-4, 2, -9, 0}, []int{4}, api.ErrArg}, {[]int{6, 2, -9, 0}, []int{4}, api.ErrArg}, {[]int{-3, 2, -9, 1}, []int{4}, api.ErrArg}, {[]int{-3, 2, -9, -1}, []int{4}, api.ErrArg},
		{[]int{-3, 2, -9, 0}, []int{3}, api.ErrArg}, {[]int{-3, 2, -9, 0}, []int{8}, api.ErrArg},
		{[]int{-3, 2, -9}, []int{4}, api.ErrArg}, {[]int{-3, 2, -9, 0, 0}, []int{4}, api.ErrArg}, {nil, []int{4}, api.ErrArg}, {[]int{-3, 2, -9, 0}, nil, api.ErrArg}, {[]int{-3, 2, -9, 0}, []int{4, 4}, api.ErrArg},
		{[]int{math.MinInt, 2, -9, 0}, []int{4}, api.ErrArg}, {[]int{math.MaxInt, 2, -9, 0}, []int{4}, api.ErrArg}, {[]int{-3, 2, -9, 0}, []int{math.MinInt}, api.ErrArg}, {[]int{-3, 2, -9, 0}, []int{math.MaxInt}, api.ErrArg},
	} {
		should := results(0, c.e)
		if c.e == api.OK {
			should[0] = c.keep[0]
		}
		want(t, "Eval "+strconv.Itoa(n), evalOf(p, kept(0), c.in, c.keep), should)
	}
	want(t, "Eval of a bad expression with bad values", evalOf(p, ops(), nil, nil), results(0, api.ErrExpr))
	far := do(api.Add, do(api.Mul, num(1000000), num(1000000)), num(1))
	want(t, "Eval of a far expression with bad values", evalOf(p, far, nil, nil), results(0, api.ErrRange))
	p.Every = 0
	want(t, "Eval of a bad part", evalOf(p, ops(), nil, nil), results(0, api.ErrPart))
	none := wide("a", 0, 0, 0, 1)
	want(t, "Eval without ports", evalOf(none, num(3), nil, []int{}), results(3, api.OK))
}

// P2.3, P2.14: values are those of the plain definition, and within Bounds.
func TestRandomEval(t *testing.T) {
	r := rand.New(rand.NewSource(3))
	p := meter()
	for range 20000 {
		x := randomExpr(r, p, 1+r.Intn(24))
		in, keep := randomValues(r, p.In), randomValues(r, p.Keep)
		v, e := parts.Eval(p, x, in, keep)
		low, high, f := parts.Bounds(p, x)
		want(t, "the error of Eval of "+text(p, x.Ops), e, f)
		if e == api.OK && (v != value(x.Ops, in, keep) || v < low || v > high) {
			t.Errorf("Eval of %s with %v, %v is %d; it should be %d, from %d to %d", text(p, x.Ops), in, keep, v, value(x.Ops, in, keep), low, high)
		}
	}
}
