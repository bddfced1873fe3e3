package parts_test

import (
	"fmt"
	"math/big"
	"math/rand"
	"slices"
	"strconv"
	"strings"
	"testing"

	"ignition/api"
	"ignition/parts"
)

// The tests compare the package with plain definitions: expressions are read from their last operation backwards, and their bounds are big numbers.

// num, input, kept and do make expressions.
func num(v int) api.Expr { return api.Expr{Ops: []api.Op{{Kind: api.Const, Value: v}}} }

func input(i int) api.Expr { return api.Expr{Ops: []api.Op{{Kind: api.InPort, Value: i}}} }

func kept(i int) api.Expr { return api.Expr{Ops: []api.Op{{Kind: api.Kept, Value: i}}} }

func do(kind int, operands ...api.Expr) api.Expr {
	var x api.Expr
	for _, o := range operands {
		x.Ops = append(x.Ops, o.Ops...)
	}
	x.Ops = append(x.Ops, api.Op{Kind: kind})
	return x
}

// ops makes an expression of operations that need not be well formed.
func ops(l ...api.Op) api.Expr { return api.Expr{Ops: l} }

// port makes a port.
func port(name string, low, high, start int) api.Port {
	return api.Port{Name: name, Low: low, High: high, Start: start}
}

// brake is the part of the chapter's examples.
func brake() api.Part {
	return api.Part{
		Name: "brake", Every: 2, Level: 3,
		In:   []api.Port{port("pedal", 0, 100, 0)},
		Out:  []api.Port{port("press", 0, 200, 0)},
		Keep: []api.Port{port("last", 0, 100, 0)},
		Acts: []api.Act{{Out: []api.Expr{do(api.Add, input(0), kept(0))}, Keep: []api.Expr{input(0)}, Next: num(0)}},
	}
}

// gauge is a part whose output q is its input p one tick later.
func gauge(name string) api.Part {
	return api.Part{
		Name: name, Every: 1, Level: 2,
		In:   []api.Port{port("p", 0, 200, 9)},
		Out:  []api.Port{port("q", 0, 200, 7)},
		Acts: []api.Act{{Out: []api.Expr{input(0)}, Next: num(0)}},
	}
}

// pair is a brake whose press a gauge reads.
func pair() api.Design {
	return api.Design{Parts: []api.Part{brake(), gauge("gauge")}, Links: []api.Link{{From: 0, Out: 0, To: 1, In: 0}}}
}

// letters returns a name that only this number from 0 to 675 has.
func letters(i int) string { return string([]byte{byte('a' + i/26), byte('a' + i%26)}) }

// wide returns a part with so many inputs, outputs, kept things and acts; its outputs are 0.
func wide(name string, in, out, keep, acts int) api.Part {
	p := api.Part{Name: name, Every: 1}
	for i := range in + out + keep {
		list := &p.In
		if i >= in {
			list = &p.Out
		}
		if i >= in+out {
			list = &p.Keep
		}
		*list = append(*list, port(letters(i), -5, 5, 1))
	}
	for range acts {
		a := api.Act{Next: num(0)}
		for range out {
			a.Out = append(a.Out, num(0))
		}
		for range keep {
			a.Keep = append(a.Keep, num(0))
		}
		p.Acts = append(p.Acts, a)
	}
	return p
}

// many returns a design of n parts with 6 inputs and 6 outputs each.
func many(n int) api.Design {
	var d api.Design
	for i := range n {
		d.Parts = append(d.Parts, wide(letters(i), 6, 6, 0, 1))
	}
	return d
}

// operands returns how many operands a kind has.
func operands(kind int) int {
	return map[int]int{api.Const: 0, api.InPort: 0, api.Kept: 0, api.If: 3}[kind] + map[bool]int{true: 2}[kind >= api.Add && kind < api.If]
}

// split divides the operations of an expression into its operands and its last operation; rest is what stands before all of them.
func split(l []api.Op) (rest []api.Op, operand [][]api.Op, last api.Op) {
	last = l[len(l)-1]
	rest = l[:len(l)-1]
	for range operands(last.Kind) {
		before, _, _ := split(rest)
		operand = append([][]api.Op{rest[len(before):]}, operand...)
		rest = before
	}
	return rest, operand, last
}

// value is the plain definition of the value of an expression.
func value(l []api.Op, in, keep []int) int {
	_, o, last := split(l)
	v := func(i int) int { return value(o[i], in, keep) }
	is := func(b bool) int { return map[bool]int{true: 1}[b] }
	switch last.Kind {
	case api.Const:
		return last.Value
	case api.InPort:
		return in[last.Value]
	case api.Kept:
		return keep[last.Value]
	case api.Add:
		return v(0) + v(1)
	case api.Sub:
		return v(0) - v(1)
	case api.Mul:
		return v(0) * v(1)
	case api.Min:
		return slices.Min([]int{v(0), v(1)})
	case api.Max:
		return slices.Max([]int{v(0), v(1)})
	case api.Less:
		return is(v(0) < v(1))
	case api.Equal:
		return is(v(0) == v(1))
	}
	if v(0) == 0 {
		return v(2)
	}
	return v(1)
}

// limits is the plain definition of the bounds of an expression; far is whether a bound of an operation is out of range.
func limits(p api.Part, l []api.Op) (low, high *big.Int, far bool) {
	_, o, last := split(l)
	var lows, highs []*big.Int
	for _, operand := range o {
		a, b, is := limits(p, operand)
		lows, highs, far = append(lows, a), append(highs, b), far || is
	}
	low, high = limitsOf(p, last, lows, highs)
	most := big.NewInt(1000000000000)
	return low, high, far || low.CmpAbs(most) > 0 || high.CmpAbs(most) > 0
}

// limitsOf is limits of one operation.
func limitsOf(p api.Part, op api.Op, lows, highs []*big.Int) (low, high *big.Int) {
	both := func(a, b int) (low, high *big.Int) { return big.NewInt(int64(a)), big.NewInt(int64(b)) }
	switch op.Kind {
	case api.Const:
		return both(op.Value, op.Value)
	case api.InPort:
		return both(p.In[op.Value].Low, p.In[op.Value].High)
	case api.Kept:
		return both(p.Keep[op.Value].Low, p.Keep[op.Value].High)
	}
	a, b, c, d := lows[0], highs[0], lows[1], highs[1]
	order := func(l ...*big.Int) (low, high *big.Int) {
		slices.SortFunc(l, (*big.Int).Cmp)
		return l[0], l[len(l)-1]
	}
	mul := func(x, y *big.Int) *big.Int { return new(big.Int).Mul(x, y) }
	switch op.Kind {
	case api.Add:
		return new(big.Int).Add(a, c), new(big.Int).Add(b, d)
	case api.Sub:
		return new(big.Int).Sub(a, d), new(big.Int).Sub(b, c)
	case api.Mul:
		return order(mul(a, c), mul(a, d), mul(b, c), mul(b, d))
	case api.Min:
		low, _ = order(a, c)
		high, _ = order(b, d)
		return low, high
	case api.Max:
		_, low = order(a, c)
		_, high = order(b, d)
		return low, high
	case api.Less:
		return both(map[bool]int{true: 1}[b.Cmp(c) < 0], map[bool]int{true: 1}[a.Cmp(d) < 0])
	case api.Equal:
		one := a.Cmp(b) == 0 && b.Cmp(c) == 0 && c.Cmp(d) == 0
		return both(map[bool]int{true: 1}[one], map[bool]int{true: 1}[b.Cmp(c) >= 0 && d.Cmp(a) >= 0])
	}
	switch {
	case a.Sign() == 0 && b.Sign() == 0:
		return lows[2], highs[2]
	case a.Sign() > 0 || b.Sign() < 0:
		return c, d
	}
	low, _ = order(c, lows[2])
	_, high = order(d, highs[2])
	return low, high
}

// text is the plain definition of the text of an expression.
func text(p api.Part, l []api.Op) string {
	_, o, last := split(l)
	switch last.Kind {
	case api.Const:
		return strconv.Itoa(last.Value)
	case api.InPort:
		return p.In[last.Value].Name
	case api.Kept:
		return p.Keep[last.Value].Name
	}
	words := []string{"(" + strings.Fields("+ - * min max < = if")[last.Kind-api.Add]}
	for _, operand := range o {
		words = append(words, text(p, operand))
	}
	return strings.Join(words, " ") + ")"
}

// randomExpr returns a well-formed expression of at most most operations over the ports of a part.
func randomExpr(r *rand.Rand, p api.Part, most int) api.Expr {
	kind := api.Add + r.Intn(8)
	n := operands(kind)
	if most < 1+n || r.Intn(6) == 0 {
		switch k := r.Intn(4); {
		case k < 2 && len(p.In) > 0:
			return input(r.Intn(len(p.In)))
		case k == 2 && len(p.Keep) > 0:
			return kept(r.Intn(len(p.Keep)))
		}
		return num(r.Intn(9) - 4)
	}
	var l []api.Expr
	for range n {
		l = append(l, randomExpr(r, p, (most-1)/n))
	}
	return do(kind, l...)
}

// clamped returns an expression that stays from low to high.
func clamped(x api.Expr, low, high int) api.Expr {
	return do(api.Max, num(low), do(api.Min, num(high), x))
}

// near returns an expression of a part that stays from low to high.
func near(r *rand.Rand, p api.Part, low, high int) api.Expr {
	for {
		x := randomExpr(r, p, 16)
		if _, _, far := limits(p, x.Ops); !far {
			return clamped(x, low, high)
		}
	}
}

// randomPort returns a port with a small range.
func randomPort(r *rand.Rand, name string) api.Port {
	low := -r.Intn(20)
	high := r.Intn(20)
	return port(name, low, high, low+r.Intn(high-low+1))
}

// randomPart returns a valid part.
func randomPart(r *rand.Rand, name string) api.Part {
	p := api.Part{Name: name, Every: 1 + r.Intn(4), Level: r.Intn(5)}
	for i, list := range [3]*[]api.Port{&p.In, &p.Out, &p.Keep} {
		for k := range r.Intn(4) {
			*list = append(*list, randomPort(r, letters(10*i+k)))
		}
	}
	modes := 1 + r.Intn(3)
	for range modes {
		var a api.Act
		for _, o := range p.Out {
			a.Out = append(a.Out, near(r, p, o.Low, o.High))
		}
		for _, k := range p.Keep {
			a.Keep = append(a.Keep, near(r, p, k.Low, k.High))
		}
		a.Next = near(r, p, 0, modes-1)
		p.Acts = append(p.Acts, a)
	}
	return p
}

// randomDesign returns a valid design.
func randomDesign(r *rand.Rand) api.Design {
	var d api.Design
	for i := range r.Intn(5) {
		d.Parts = append(d.Parts, randomPart(r, letters(100+i)))
	}
	for to, p := range d.Parts {
		for in, port := range p.In {
			from := r.Intn(len(d.Parts))
			source := d.Parts[from]
			if source.Level < p.Level || len(source.Out) == 0 || r.Intn(5) == 0 {
				continue
			}
			out := r.Intn(len(source.Out))
			if o := source.Out[out]; port.Low <= o.Low && o.High <= port.High {
				d.Links = append(d.Links, api.Link{From: from, Out: out, To: to, In: in})
			}
		}
	}
	r.Shuffle(len(d.Links), func(i, k int) { d.Links[i], d.Links[k] = d.Links[k], d.Links[i] })
	return d
}

// randomValues returns a value for each port.
func randomValues(r *rand.Rand, ports []api.Port) []int {
	var l []int
	for _, p := range ports {
		l = append(l, p.Low+r.Intn(p.High-p.Low+1))
	}
	return l
}

// randomFeeds returns feeds for some of the open inputs of a design.
func randomFeeds(r *rand.Rand, d api.Design) []api.Feed {
	var feeds []api.Feed
	for i, p := range d.Parts {
		for k, port := range p.In {
			linked := slices.ContainsFunc(d.Links, func(l api.Link) bool { return l.To == i && l.In == k })
			if linked || r.Intn(4) == 0 {
				continue
			}
			f := api.Feed{Part: i, In: k}
			for range 1 + r.Intn(6) {
				f.Values = append(f.Values, randomValues(r, []api.Port{port})...)
			}
			feeds = append(feeds, f)
		}
	}
	return feeds
}

// randomly calls what looks at one random design many times.
func randomly(t *testing.T, times int, look func(r *rand.Rand, d api.Design)) {
	t.Helper()
	r := rand.New(rand.NewSource(1))
	for range times {
		d := randomDesign(r)
		if e := parts.CheckDesign(d); e != api.OK {
			t.Fatalf("CheckDesign of %+v: %d", d, e)
		}
		look(r, d)
		if t.Failed() {
			t.Fatalf("with the design %+v", d)
		}
	}
}

// want reports a result that is not what it should be; nil and empty lists are the same.
func want(t *testing.T, what string, got, should any) {
	t.Helper()
	if g, s := fmt.Sprint(got), fmt.Sprint(should); g != s {
		t.Errorf("%s is %s; it should be %s", what, g, s)
	}
}

// results makes one value of several results.
func results(l ...any) []any { return l }
