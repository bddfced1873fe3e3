package parts

import "ignition/api"

// span is all numbers from low to high.
type span struct{ low, high int }

// within reports whether all numbers of s are in t.
func (s span) within(t span) bool { return t.low <= s.low && s.high <= t.high }

// has reports whether a number is in s.
func (s span) has(v int) bool { return s.low <= v && v <= s.high }

// rangeOf returns the values that a port may have.
func rangeOf(p api.Port) span { return span{p.Low, p.High} }

// measure returns the bounds of an expression over the ports of a part; ErrExpr unless it is well formed, and ErrRange if a bound of an operation is too far from 0.
func measure(p api.Part, x api.Expr) (span, api.Errno) {
	if !wellFormed(p, x) {
		return span{}, api.ErrExpr
	}
	far := false
	s := carry(x, func(op api.Op, x, y, z span) span {
		s := bounds(p, op, x, y, z)
		if !s.within(span{-api.MaxSum, api.MaxSum}) {
			// Nothing that comes after it matters, but it must not overflow.
			far, s = true, span{}
		}
		return s
	})
	if far {
		return span{}, api.ErrRange
	}
	return s, api.OK
}

// bounds returns the bounds of an operation from those of its operands.
func bounds(p api.Part, op api.Op, x, y, z span) span {
	switch op.Kind {
	case api.Const:
		return span{op.Value, op.Value}
	case api.InPort:
		return rangeOf(p.In[op.Value])
	case api.Kept:
		return rangeOf(p.Keep[op.Value])
	case api.Add:
		return span{x.low + y.low, x.high + y.high}
	case api.Sub:
		return span{x.low - y.high, x.high - y.low}
	case api.Mul:
		return products(x, y)
	case api.Min:
		return span{min(x.low, y.low), min(x.high, y.high)}
	case api.Max:
		return span{max(x.low, y.low), max(x.high, y.high)}
	case api.Less:
		return answers(x.high < y.low, x.low >= y.high)
	case api.Equal:
		return answers(x == y && x.low == x.high, x.high < y.low || y.high < x.low)
	}
	return chosen(x, y, z)
}

// products returns the bounds of Mul.
func products(x, y span) span {
	a, b := product(x.low, y.low), product(x.low, y.high)
	c, d := product(x.high, y.low), product(x.high, y.high)
	return span{min(a, b, c, d), max(a, b, c, d)}
}

// product returns x times y for numbers from -MaxSum to MaxSum; where it is beyond these, on either side, a number above them, since it could overflow.
func product(x, y int) int {
	if x == 0 || max(y, -y) <= api.MaxSum/max(x, -x) {
		return x * y
	}
	return api.MaxSum + 1
}

// answers returns the bounds of an answer that is always yes, never, or sometimes.
func answers(always, never bool) span {
	switch {
	case always:
		return span{1, 1}
	case never:
		return span{0, 0}
	}
	return span{0, 1}
}

// chosen returns the bounds of If.
func chosen(x, y, z span) span {
	switch {
	case x == span{}:
		return z
	case !x.has(0):
		return y
	}
	return span{min(y.low, z.low), max(y.high, z.high)}
}
