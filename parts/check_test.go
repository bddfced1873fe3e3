package parts_test

import (
	"math"
	"testing"

	"ignition/api"
	"ignition/parts"
)

// partCase is a change of a part, and what Check then returns.
type partCase struct {
	what   string
	change func(p *api.Part)
	e      api.Errno
}

// checkCases looks at the brake with each change, alone.
func checkCases(t *testing.T, cases []partCase) {
	t.Helper()
	for _, c := range cases {
		p := brake()
		c.change(&p)
		want(t, "Check of "+c.what, parts.Check(p), c.e)
	}
}

// P2.1: the name of a part is a name.
func TestCheckName(t *testing.T) {
	for name, e := range map[string]api.Errno{
		"a": api.OK, "z": api.OK, "az": api.OK, "abcdefgh": api.OK, "next": api.OK, "part": api.OK,
		"": api.ErrPart, "abcdefghi": api.ErrPart, "A": api.ErrPart, "aZ": api.ErrPart, "a1": api.ErrPart, "a b": api.ErrPart,
		"`": api.ErrPart, "{": api.ErrPart, "é": api.ErrPart, "\x00": api.ErrPart, "abc\n": api.ErrPart, "\xff": api.ErrPart,
	} {
		checkCases(t, []partCase{{"the name " + name, func(p *api.Part) { p.Name = name }, e}})
		if e == api.ErrPart {
			e = api.ErrPort
		}
		checkCases(t, []partCase{
			{"the input " + name, func(p *api.Part) { p.In[0].Name = name }, e},
			{"the output " + name, func(p *api.Part) { p.Out[0].Name = name }, e},
			{"the kept " + name, func(p *api.Part) { p.Keep[0].Name = name }, e},
		})
	}
}

// P2.1: the numbers of a part.
func TestCheckNumbers(t *testing.T) {
	for every, e := range map[int]api.Errno{1: api.OK, 100: api.OK, 0: api.ErrPart, 101: api.ErrPart, -1: api.ErrPart, math.MinInt: api.ErrPart, math.MaxInt: api.ErrPart} {
		checkCases(t, []partCase{{"Every", func(p *api.Part) { p.Every = every }, e}})
	}
	for level, e := range map[int]api.Errno{0: api.OK, 4: api.OK, -1: api.ErrPart, 5: api.ErrPart, math.MinInt: api.ErrPart, math.MaxInt: api.ErrPart} {
		checkCases(t, []partCase{{"Level", func(p *api.Part) { p.Level = level }, e}})
	}
	for n, e := range map[int]api.Errno{0: api.OK, 1: api.OK, 6: api.OK, 7: api.ErrPart} {
		want(t, "Check with inputs", parts.Check(wide("a", n, 1, 1, 1)), e)
		want(t, "Check with outputs", parts.Check(wide("a", 1, n, 1, 1)), e)
		want(t, "Check with kept things", parts.Check(wide("a", 1, 1, n, 1)), e)
	}
	for n, e := range map[int]api.Errno{0: api.ErrPart, 1: api.OK, 4: api.OK, 5: api.ErrPart} {
		want(t, "Check with acts", parts.Check(wide("a", 1, 1, 1, n)), e)
	}
	want(t, "Check of the largest part", parts.Check(wide("a", 6, 6, 6, 4)), api.OK)
	want(t, "Check of no part", parts.Check(api.Part{}), api.ErrPart)
}

// P2.1: ports have different names, and ranges with their starts.
func TestCheckPorts(t *testing.T) {
	p := wide("a", 2, 2, 2, 1)
	ports := [6]*api.Port{&p.In[0], &p.In[1], &p.Out[0], &p.Out[1], &p.Keep[0], &p.Keep[1]}
	want(t, "Check of six ports", parts.Check(p), api.OK)
	for i := range ports {
		for k := range i {
			name := ports[i].Name
			ports[i].Name = ports[k].Name
			want(t, "Check of two ports with one name", parts.Check(p), api.ErrPort)
			ports[i].Name = name
		}
	}
	for _, c := range []struct {
		low, high, start int
		e                api.Errno
	}{
		{-5, 5, -5, api.OK}, {-5, 5, 5, api.OK}, {0, 0, 0, api.OK}, {-1000000, 1000000, 3, api.OK}, {-1000000, 0, -1000000, api.OK}, {0, 1000000, 1000000, api.OK},
		{-5, 5, -6, api.ErrPort}, {-5, 5, 6, api.ErrPort}, {1, 0, 0, api.ErrPort}, {1, 0, 1, api.ErrPort}, {-1000001, 5, 0, api.ErrPort}, {-5, 1000001, 0, api.ErrPort},
		{math.MinInt, 5, 0, api.ErrPort}, {-5, math.MaxInt, 0, api.ErrPort}, {-5, 5, math.MinInt, api.ErrPort}, {-5, 5, math.MaxInt, api.ErrPort},
		{math.MaxInt, math.MinInt, 0, api.ErrPort}, {math.MinInt, math.MinInt, math.MinInt, api.ErrPort}, {math.MaxInt, math.MaxInt, math.MaxInt, api.ErrPort},
	} {
		checkCases(t, []partCase{{"an input", func(p *api.Part) {
			p.In[0] = port("i", c.low, c.high, c.start)
			p.Acts[0] = api.Act{Out: []api.Expr{num(0)}, Keep: []api.Expr{num(0)}, Next: num(0)}
		}, c.e}})
	}
	checkCases(t, []partCase{
		{"an output that starts too high", func(p *api.Part) { p.Out[0].Start = 201 }, api.ErrPort},
		{"something kept that starts too low", func(p *api.Part) { p.Keep[0].Start = -1 }, api.ErrPort},
	})
}

// P2.1: an act has an expression for each output and each kept thing.
func TestCheckActs(t *testing.T) {
	checkCases(t, []partCase{
		{"no outputs in an act", func(p *api.Part) { p.Acts[0].Out = nil }, api.ErrPart},
		{"nothing kept in an act", func(p *api.Part) { p.Acts[0].Keep = nil }, api.ErrPart},
		{"two outputs in an act", func(p *api.Part) { p.Acts[0].Out = append(p.Acts[0].Out, num(0)) }, api.ErrPart},
		{"two kept things in an act", func(p *api.Part) { p.Acts[0].Keep = append(p.Acts[0].Keep, num(0)) }, api.ErrPart},
		{"an empty act", func(p *api.Part) { p.Acts = append(p.Acts, api.Act{}) }, api.ErrPart},
		{"an output too low", func(p *api.Part) { p.Out[0].Low, p.Out[0].Start = 1, 1 }, api.ErrRange},
		{"an output too high", func(p *api.Part) { p.Out[0].High = 199 }, api.ErrRange},
		{"the example's output too high", func(p *api.Part) { p.Out[0].High = 150 }, api.ErrRange},
		{"something kept too low", func(p *api.Part) { p.Keep[0].Low, p.Keep[0].Start = 1, 1 }, api.ErrRange},
		{"something kept too high", func(p *api.Part) { p.Keep[0].High = 99 }, api.ErrRange},
		{"a mode too high", func(p *api.Part) { p.Acts[0].Next = num(1) }, api.ErrRange},
		{"a mode too low", func(p *api.Part) { p.Acts[0].Next = num(-1) }, api.ErrRange},
		{"a second mode", func(p *api.Part) { p.Acts[0].Next = num(1); p.Acts = append(p.Acts, p.Acts[0]) }, api.OK},
		{"a third mode", func(p *api.Part) { p.Acts[0].Next = num(2); p.Acts = append(p.Acts, p.Acts[0]) }, api.ErrRange},
		{"an output of another range", func(p *api.Part) {
			p.Out = append(p.Out, port("o", 5, 5, 5))
			p.Acts[0].Out = append(p.Acts[0].Out, num(5))
		}, api.OK},
		{"outputs changed over", func(p *api.Part) {
			p.Out = append(p.Out, port("o", 5, 5, 5))
			p.Acts[0].Out = append([]api.Expr{num(5)}, p.Acts[0].Out...)
		}, api.ErrRange},
		{"an output that has no expression", func(p *api.Part) { p.Acts[0].Out[0] = api.Expr{} }, api.ErrExpr},
		{"something kept that has no expression", func(p *api.Part) { p.Acts[0].Keep[0] = api.Expr{} }, api.ErrExpr},
		{"no next mode", func(p *api.Part) { p.Acts[0].Next = api.Expr{} }, api.ErrExpr},
		{"an output above 0 that has no expression", func(p *api.Part) { p.Out[0] = port("press", 5, 9, 5); p.Acts[0].Out[0] = api.Expr{} }, api.ErrExpr},
		{"an output below 0 that has a far expression", func(p *api.Part) {
			p.Out[0] = port("press", -9, -5, -5)
			p.Acts[0].Out[0] = do(api.Min, num(-6), do(api.Mul, num(2), do(api.Mul, num(1000000), num(1000000))))
		}, api.ErrRange},
		{"a bad second act", func(p *api.Part) { a := p.Acts[0]; a.Next = num(7); p.Acts = append(p.Acts, a) }, api.ErrRange},
	})
}

// P2.1: which of several errors comes first.
func TestCheckOrder(t *testing.T) {
	bad := api.Expr{}
	checkCases(t, []partCase{
		{"a part before its ports", func(p *api.Part) { p.Every = 0; p.In[0].Name = "" }, api.ErrPart},
		{"the number of acts before ports", func(p *api.Part) { p.Acts = nil; p.In[0].Name = "" }, api.ErrPart},
		{"ports before acts", func(p *api.Part) { p.Keep[0].Start = -1; p.Acts[0].Out = nil }, api.ErrPort},
		{"ports before expressions", func(p *api.Part) { p.Keep[0].Start = -1; p.Acts[0].Out[0] = bad }, api.ErrPort},
		{"the form of an act before its expressions", func(p *api.Part) { p.Acts[0].Out[0] = bad; p.Acts[0].Keep = nil }, api.ErrPart},
		{"an act before the next one", func(p *api.Part) { p.Acts[0].Next = num(5); p.Acts = append(p.Acts, api.Act{}) }, api.ErrRange},
		{"an output before the next one", func(p *api.Part) {
			p.Out = append(p.Out, port("o", 0, 0, 0))
			p.Acts[0].Out = []api.Expr{num(-1), bad}
		}, api.ErrRange},
		{"outputs before what is kept", func(p *api.Part) { p.Acts[0].Out[0] = num(-1); p.Acts[0].Keep[0] = bad }, api.ErrRange},
		{"outputs before what is kept, otherwise", func(p *api.Part) { p.Acts[0].Out[0] = bad; p.Acts[0].Keep[0] = num(-1) }, api.ErrExpr},
		{"what is kept before Next", func(p *api.Part) { p.Acts[0].Keep[0] = num(-1); p.Acts[0].Next = bad }, api.ErrRange},
		{"what is kept before Next, otherwise", func(p *api.Part) { p.Acts[0].Keep[0] = bad; p.Acts[0].Next = num(-1) }, api.ErrExpr},
		{"the form of an expression before its range", func(p *api.Part) {
			big := do(api.Mul, num(1000000), num(1000000))
			p.Acts[0].Out[0] = do(api.Add, do(api.Mul, big, big), ops())
		}, api.ErrExpr},
	})
}
