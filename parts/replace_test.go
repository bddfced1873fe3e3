package parts_test

import (
	"math"
	"math/rand"
	"testing"

	"ignition/api"
	"ignition/parts"
)

// fitsOf returns all results of Fits.
func fitsOf(old, new api.Part) []any {
	is, e := parts.Fits(old, new)
	return results(is, e)
}

// frame returns a part with these ports; what it does is nothing.
func frame(name string, every, level int, in, out []api.Port) api.Part {
	a := api.Act{Next: num(0)}
	for _, o := range out {
		a.Out = append(a.Out, num(o.Low))
	}
	return api.Part{Name: name, Every: every, Level: level, In: in, Out: out, Acts: []api.Act{a}}
}

// ports makes a list of ports.
func ports(l ...api.Port) []api.Port { return l }

// plain returns the old part that others fit or not.
func plain() api.Part {
	return frame("plain", 12, 2, ports(port("i", -5, 5, 0), port("j", 0, 9, 0)), ports(port("o", -5, 5, 0), port("p", 0, 9, 0)))
}

// P2.9: the ports of a part that fits.
func TestFitsPorts(t *testing.T) {
	i, j, o, p := port("i", -5, 5, 0), port("j", 0, 9, 0), port("o", -5, 5, 0), port("p", 0, 9, 0)
	for _, c := range []struct {
		in, out []api.Port
		is      bool
	}{
		{ports(i, j), ports(o, p), true}, {ports(j, i), ports(p, o), true}, {ports(j), ports(o, p), true}, {nil, ports(o, p), true}, {ports(i, j), ports(port("q", 0, 0, 0), o, p), true},
		{ports(i, j, port("k", -1000000, 1000000, 0)), ports(o, p), false}, {ports(i, port("k", 0, 9, 0)), ports(o, p), false}, {ports(i, j), ports(o), false}, {ports(i, j), ports(p), false}, {ports(i, j), nil, false}, {ports(i, j), ports(o, port("q", 0, 9, 0)), false},
		{ports(port("i", -6, 5, 0), j), ports(o, p), true}, {ports(port("i", -5, 6, 0), j), ports(o, p), true}, {ports(port("i", -5, 5, 4), j), ports(o, p), true},
		{ports(port("i", -4, 5, 0), j), ports(o, p), false}, {ports(port("i", -5, 4, 0), j), ports(o, p), false}, {ports(i, port("j", 0, 8, 0)), ports(o, p), false}, {ports(i, port("j", 1, 9, 1)), ports(o, p), false},
		{ports(i, j), ports(port("o", -4, 5, 0), p), true}, {ports(i, j), ports(port("o", -5, 4, 0), p), true}, {ports(i, j), ports(port("o", 3, 3, 3), p), true},
		{ports(i, j), ports(port("o", -6, 5, 0), p), false}, {ports(i, j), ports(port("o", -5, 6, 0), p), false}, {ports(i, j), ports(o, port("p", 0, 10, 0)), false}, {ports(i, j), ports(o, port("p", -1, 9, 0)), false},
		{ports(port("p", 0, 9, 0)), ports(o, port("j", 0, 9, 0)), false}, {ports(port("o", -5, 5, 0)), ports(port("i", 0, 0, 0), p), false},
	} {
		want(t, "Fits", fitsOf(plain(), frame("other", 12, 2, c.in, c.out)), results(c.is, api.OK))
	}
}

// P2.9: the level and the pace of a part that fits; what it keeps and does, and its name, do not matter.
func TestFitsNumbers(t *testing.T) {
	for level := range 5 {
		p := plain()
		p.Level = level
		want(t, "Fits of a level", fitsOf(plain(), p), results(level >= 2, api.OK))
	}
	for every := 1; every <= 100; every++ {
		p := plain()
		p.Every = every
		want(t, "Fits of a pace", fitsOf(plain(), p), results(12%every == 0, api.OK))
	}
	p := plain()
	p.Name, p.Keep, p.Acts = "other", ports(port("k", 1, 1, 1)), append(p.Acts, p.Acts...)
	p.Acts[0].Keep, p.Acts[1].Keep = []api.Expr{num(1)}, []api.Expr{num(1)}
	want(t, "Fits of a part that keeps something", fitsOf(plain(), p), results(true, api.OK))
	want(t, "Fits of a part that keeps nothing", fitsOf(p, plain()), results(true, api.OK))
}

// P2.9: the errors are those of Check.
func TestFitsErrors(t *testing.T) {
	bad, worse := plain(), plain()
	bad.Acts[0].Next = num(1)
	worse.In[0].Start = 6
	want(t, "Fits of a bad old part", fitsOf(bad, worse), results(false, api.ErrRange))
	want(t, "Fits of a bad old part, otherwise", fitsOf(worse, bad), results(false, api.ErrPort))
	want(t, "Fits of a bad old part only", fitsOf(bad, plain()), results(false, api.ErrRange))
	want(t, "Fits of a bad new part", fitsOf(plain(), worse), results(false, api.ErrPort))
}

// P2.16: a part fits itself, and what fits what fits fits.
func TestFitsPassesOn(t *testing.T) {
	r := rand.New(rand.NewSource(5))
	list := func(names ...string) []api.Port {
		var l []api.Port
		for _, name := range names {
			if low, high := r.Intn(2), 2-r.Intn(2); r.Intn(2) == 0 {
				l = append(l, port(name, low, high, high))
			}
		}
		return l
	}
	var l []api.Part
	for range 90 {
		l = append(l, frame("a", 1<<r.Intn(3), r.Intn(2), list("i", "j"), list("o")))
	}
	passed := 0
	for _, a := range l {
		want(t, "Fits of a part itself", fitsOf(a, a), results(true, api.OK))
		for _, b := range l {
			is, _ := parts.Fits(a, b)
			for _, c := range l {
				if next, _ := parts.Fits(b, c); is && next {
					want(t, "Fits of a part that fits one that fits", fitsOf(a, c), results(true, api.OK))
					passed++
				}
			}
		}
	}
	if passed < 300 {
		t.Errorf("only %d chains fit", passed)
	}
}

// replaceOf returns all results of Replace.
func replaceOf(d api.Design, part int, new api.Part) []any {
	r, e := parts.Replace(d, part, new)
	return results(r, e)
}

// hub is a design around the part plain, with the number 1: both inputs are linked, one to the part itself, and both outputs.
func hub() api.Design {
	first := frame("first", 1, 3, nil, ports(port("a", 0, 5, 0)))
	last := frame("last", 1, 1, ports(port("x", -5, 9, 0), port("y", -5, 9, 0), port("z", 0, 9, 0)), nil)
	return api.Design{
		Parts: []api.Part{first, plain(), last},
		Links: []api.Link{{From: 1, Out: 1, To: 2, In: 0}, {From: 0, Out: 0, To: 1, In: 0}, {From: 1, Out: 0, To: 2, In: 1}, {From: 1, Out: 1, To: 1, In: 1}, {From: 0, Out: 0, To: 2, In: 2}},
	}
}

// P2.10: links lead to the ports with the same names, and those to inputs that are not there are gone.
func TestReplace(t *testing.T) {
	i, j, o, p, q := port("i", -5, 5, 0), port("j", 0, 9, 0), port("o", -5, 5, 0), port("p", 0, 9, 0), port("q", 0, 0, 0)
	for _, c := range []struct {
		in, out []api.Port
		links   []api.Link
	}{
		{ports(i, j), ports(o, p), hub().Links},
		{ports(j, i), ports(q, p, o), []api.Link{{From: 1, Out: 1, To: 2, In: 0}, {From: 0, Out: 0, To: 1, In: 1}, {From: 1, Out: 2, To: 2, In: 1}, {From: 1, Out: 1, To: 1, In: 0}, {From: 0, Out: 0, To: 2, In: 2}}},
		{ports(j), ports(p, q, o), []api.Link{{From: 1, Out: 0, To: 2, In: 0}, {From: 1, Out: 2, To: 2, In: 1}, {From: 1, Out: 0, To: 1, In: 0}, {From: 0, Out: 0, To: 2, In: 2}}},
		{ports(i), ports(o, p), []api.Link{{From: 1, Out: 1, To: 2, In: 0}, {From: 0, Out: 0, To: 1, In: 0}, {From: 1, Out: 0, To: 2, In: 1}, {From: 0, Out: 0, To: 2, In: 2}}},
		{nil, ports(o, p), []api.Link{{From: 1, Out: 1, To: 2, In: 0}, {From: 1, Out: 0, To: 2, In: 1}, {From: 0, Out: 0, To: 2, In: 2}}},
	} {
		for _, name := range []string{"plain", "new"} {
			new := frame(name, 4, 2, c.in, c.out)
			d := hub()
			should := api.Design{Parts: []api.Part{d.Parts[0], new, d.Parts[2]}, Links: c.links}
			want(t, "Replace", replaceOf(d, 1, new), results(should, api.OK))
			want(t, "the design", d, hub())
		}
	}
}

// P2.10: no part with a lower level may lead to the new one, but for itself.
func TestReplaceLevel(t *testing.T) {
	new := plain()
	for level, e := range map[int]api.Errno{1: api.ErrPart, 2: api.OK, 3: api.OK, 4: api.ErrLevel} {
		new.Level = level
		want(t, "the error of Replace", replaceOf(hub(), 1, new)[1], e)
	}
	new.Level = 4
	want(t, "Replace with a level that is too high", replaceOf(hub(), 1, new), results(api.Design{}, api.ErrLevel))
	alone := frame("alone", 12, 4, ports(port("j", 0, 9, 0)), plain().Out)
	want(t, "the error of Replace without a link from a lower level", replaceOf(hub(), 1, alone)[1], api.OK)
	last := hub().Parts[2]
	last.Level = 3
	want(t, "Replace of the last part", replaceOf(hub(), 2, last), results(api.Design{}, api.ErrLevel))
	last = frame("last", 1, 3, last.In[2:], nil)
	d := hub()
	should := api.Design{Parts: []api.Part{d.Parts[0], d.Parts[1], last}, Links: []api.Link{d.Links[1], d.Links[3], {From: 0, Out: 0, To: 2, In: 0}}}
	want(t, "Replace of the last part without two links", replaceOf(d, 2, last), results(should, api.OK))
}

// P2.10: the errors of Replace, in their order.
func TestReplaceErrors(t *testing.T) {
	bad, small, first := plain(), plain(), plain()
	bad.Acts[0].Next = ops()
	small.In = small.In[:1]
	small.Out = small.Out[:1]
	small.Acts[0].Out = small.Acts[0].Out[:1]
	first.Name = "first"
	d := hub()
	d.Links[2].In = 9
	for _, c := range []struct {
		d    api.Design
		part int
		new  api.Part
		e    api.Errno
	}{
		{d, 7, bad, api.ErrLink}, {hub(), -1, bad, api.ErrArg}, {hub(), 3, bad, api.ErrArg}, {hub(), math.MinInt, plain(), api.ErrArg}, {hub(), math.MaxInt, plain(), api.ErrArg}, {api.Design{}, 0, plain(), api.ErrArg},
		{hub(), 1, bad, api.ErrExpr}, {hub(), 1, api.Part{}, api.ErrPart}, {hub(), 1, small, api.ErrPart}, {hub(), 1, first, api.ErrPart}, {hub(), 0, plain(), api.ErrPart}, {hub(), 1, brake(), api.ErrPart},
	} {
		want(t, "Replace", replaceOf(c.d, c.part, c.new), results(api.Design{}, c.e))
	}
	first.Level = 4
	want(t, "Replace with a name that is there, and a level that is too high", replaceOf(hub(), 1, first), results(api.Design{}, api.ErrPart))
	high := plain()
	high.Level, high.Every = 4, 5
	want(t, "Replace with a pace that does not fit, and a level that is too high", replaceOf(hub(), 1, high), results(api.Design{}, api.ErrPart))
}

// varied returns a part that may fit p, or not.
func varied(r *rand.Rand, p api.Part) api.Part {
	p.Level = min(4, p.Level+r.Intn(3)/2)
	p.Every = []int{1, p.Every, p.Every, p.Every + r.Intn(2)}[r.Intn(4)]
	p.In = append(ports(), p.In...)
	r.Shuffle(len(p.In), func(i, k int) { p.In[i], p.In[k] = p.In[k], p.In[i] })
	p.In = p.In[:len(p.In)-r.Intn(len(p.In)+1)/2]
	out := append(ports(), p.Out...)
	if r.Intn(2) == 0 {
		out = append(ports(port("new", -3, 3, 0)), out...)
	}
	for i := range p.In {
		p.In[i].High += r.Intn(2)
	}
	return frame(p.Name, p.Every, p.Level, p.In, out)
}

// P2.16: the design is valid wherever Replace returns OK, and a part that is replaced by itself changes nothing.
func TestRandomReplace(t *testing.T) {
	done := 0
	randomly(t, 2000, func(r *rand.Rand, d api.Design) {
		for i, p := range d.Parts {
			same, e := parts.Replace(d, i, p)
			want(t, "the error of Replace by the part itself", e, api.OK)
			if !parts.Same(same, d) {
				t.Errorf("Replace of the part %d by itself is %+v", i, same)
			}
			changed, e := parts.Replace(d, i, varied(r, p))
			if e == api.OK {
				want(t, "CheckDesign", parts.CheckDesign(changed), api.OK)
				done++
			}
		}
	})
	if done < 500 {
		t.Errorf("only %d parts could be replaced", done)
	}
}
