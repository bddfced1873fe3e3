package parts_test

import (
	"math"
	"math/rand"
	"testing"

	"ignition/api"
	"ignition/parts"
)

// beginOf returns all results of Begin.
func beginOf(p api.Part) []any {
	s, e := parts.Begin(p)
	return results(s, e)
}

// stepOf returns all results of Step.
func stepOf(p api.Part, s api.State, in ...int) []any {
	out, next, e := parts.Step(p, s, in)
	return results(out, next, e)
}

// state makes a state.
func state(mode int, keep ...int) api.State { return api.State{Mode: mode, Keep: keep} }

// switcher has three modes, two outputs and two kept things; what it does is different everywhere.
func switcher() api.Part {
	act := func(a, b, c, d, next api.Expr) api.Act {
		return api.Act{Out: []api.Expr{a, b}, Keep: []api.Expr{c, d}, Next: next}
	}
	return api.Part{
		Name: "switcher", Every: 1,
		In:   []api.Port{port("i", 0, 9, 4), port("j", 0, 2, 1)},
		Out:  []api.Port{port("o", -99, 99, 5), port("p", -99, 99, 6)},
		Keep: []api.Port{port("k", 0, 9, 7), port("l", 0, 9, 8)},
		Acts: []api.Act{
			act(kept(0), kept(1), kept(1), kept(0), num(1)),
			act(do(api.Add, kept(0), input(0)), do(api.Mul, kept(1), num(10)), input(0), num(3), input(1)),
			act(num(-2), input(1), num(0), input(0), do(api.Equal, kept(0), num(0))),
		},
	}
}

// P2.4: the start of a part.
func TestBegin(t *testing.T) {
	want(t, "Begin", beginOf(switcher()), results(state(0, 7, 8), api.OK))
	want(t, "Begin of the brake", beginOf(brake()), results(state(0, 0), api.OK))
	want(t, "Begin with nothing kept", beginOf(gauge("a")), results(state(0), api.OK))
	p := switcher()
	p.Name = ""
	want(t, "Begin without a name", beginOf(p), results(api.State{}, api.ErrPart))
	p = switcher()
	p.Keep[1].Start = 10
	want(t, "Begin of bad ports", beginOf(p), results(api.State{}, api.ErrPort))
	p = switcher()
	p.Acts[2].Next = ops()
	want(t, "Begin of a bad act", beginOf(p), results(api.State{}, api.ErrExpr))
	p.Acts[2].Next = num(3)
	want(t, "Begin of a bad mode", beginOf(p), results(api.State{}, api.ErrRange))
}

// P2.5: the act of the mode gives everything, from the values before.
func TestStep(t *testing.T) {
	p := switcher()
	want(t, "Step in the mode 0", stepOf(p, state(0, 2, 3), 4, 1), results([]int{2, 3}, state(1, 3, 2), api.OK))
	want(t, "Step in the mode 1", stepOf(p, state(1, 2, 4), 5, 2), results([]int{7, 40}, state(2, 5, 3), api.OK))
	want(t, "Step in the mode 1 with another input", stepOf(p, state(1, 2, 4), 5, 0), results([]int{7, 40}, state(0, 5, 3), api.OK))
	want(t, "Step in the mode 2", stepOf(p, state(2, 0, 4), 5, 2), results([]int{-2, 2}, state(1, 0, 5), api.OK))
	want(t, "Step in the mode 2 with something else kept", stepOf(p, state(2, 1, 4), 5, 2), results([]int{-2, 2}, state(0, 0, 5), api.OK))
	want(t, "Step of the brake", stepOf(brake(), state(0, 10), 30), results([]int{40}, state(0, 30), api.OK))
	want(t, "Step without ports", stepOf(wide("a", 0, 0, 0, 1), api.State{}), results([]int{}, state(0), api.OK))
}

// P2.5: the errors of Step.
func TestStepErrors(t *testing.T) {
	for _, c := range []struct {
		s  api.State
		in []int
		e  api.Errno
	}{
		{state(2, 9, 0), []int{9, 2}, api.OK}, {state(0, 0, 9), []int{0, 0}, api.OK},
		{state(-1, 0, 0), []int{0, 0}, api.ErrArg}, {state(3, 0, 0), []int{0, 0}, api.ErrArg}, {state(math.MinInt, 0, 0), []int{0, 0}, api.ErrArg}, {state(math.MaxInt, 0, 0), []int{0, 0}, api.ErrArg},
		{state(0, -1, 0), []int{0, 0}, api.ErrArg}, {state(0, 0, 10), []int{0, 0}, api.ErrArg}, {state(0, 0, math.MinInt), []int{0, 0}, api.ErrArg}, {state(0, math.MaxInt, 0), []int{0, 0}, api.ErrArg},
		{state(0, 0), []int{0, 0}, api.ErrArg}, {state(0), []int{0, 0}, api.ErrArg}, {state(0, 0, 0, 0), []int{0, 0}, api.ErrArg},
		{state(0, 0, 0), []int{-1, 0}, api.ErrArg}, {state(0, 0, 0), []int{0, 3}, api.ErrArg}, {state(0, 0, 0), []int{10, 0}, api.ErrArg}, {state(0, 0, 0), []int{0, math.MinInt}, api.ErrArg}, {state(0, 0, 0), []int{math.MaxInt, 0}, api.ErrArg},
		{state(0, 0, 0), []int{0}, api.ErrArg}, {state(0, 0, 0), nil, api.ErrArg}, {state(0, 0, 0), []int{0, 0, 0}, api.ErrArg},
	} {
		r := stepOf(switcher(), c.s, c.in...)
		want(t, "the error of Step", r[2], c.e)
		if c.e != api.OK {
			want(t, "Step", r, results([]int{}, api.State{}, c.e))
		}
	}
	p := switcher()
	p.Acts[1].Out[0] = ops()
	want(t, "Step of a bad part with a bad state", stepOf(p, state(7)), results([]int{}, api.State{}, api.ErrExpr))
	p.In[0].High = -1
	want(t, "Step of bad ports with a bad state", stepOf(p, state(7)), results([]int{}, api.State{}, api.ErrPort))
}

// P2.5, P2.14: results are those of the plain definition, and within their ranges.
func TestRandomStep(t *testing.T) {
	r := rand.New(rand.NewSource(4))
	for range 2000 {
		p := randomPart(r, "a")
		s := state(r.Intn(len(p.Acts)), randomValues(r, p.Keep)...)
		in := randomValues(r, p.In)
		var out []int
		var next api.State
		a := p.Acts[s.Mode]
		for i, x := range a.Out {
			v := value(x.Ops, in, s.Keep)
			out = append(out, v)
			if v < p.Out[i].Low || v > p.Out[i].High {
				t.Errorf("the output %d of %+v leaves its range", i, p)
			}
		}
		for i, x := range a.Keep {
			v := value(x.Ops, in, s.Keep)
			next.Keep = append(next.Keep, v)
			if v < p.Keep[i].Low || v > p.Keep[i].High {
				t.Errorf("the kept thing %d of %+v leaves its range", i, p)
			}
		}
		next.Mode = value(a.Next.Ops, in, s.Keep)
		want(t, "Step", stepOf(p, s, in...), results(out, next, api.OK))
	}
}
