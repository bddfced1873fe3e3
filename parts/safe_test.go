package parts_test

import (
	"fmt"
	"math"
	"math/rand"
	"strings"
	"testing"

	"ignition/api"
	"ignition/parts"
)

// argument is a list of arguments for all functions.
type argument struct {
	d      api.Design
	p      api.Part
	x      api.Expr
	s      api.State
	in     []int
	feeds  []api.Feed
	number int
	text   string
}

// call calls every function of the package, and returns all that they return.
func call(a argument) [][]any {
	var all [][]any
	add := func(l ...any) { all = append(all, l) }
	add(parts.Check(a.p))
	add(boundsOf(a.p, a.x)...)
	v, e := parts.Eval(a.p, a.x, a.in, a.s.Keep)
	add(v, e)
	add(beginOf(a.p)...)
	add(stepOf(a.p, a.s, a.in...)...)
	add(parts.CheckDesign(a.d))
	add(runOf(a.d, a.feeds, a.number)...)
	add(beforeOf(a.d, a.number)...)
	old := a.p
	if len(a.d.Parts) > 0 {
		old = a.d.Parts[0]
	}
	add(fitsOf(old, a.p)...)
	add(replaceOf(a.d, a.number, a.p)...)
	add(formatOf(a.d)...)
	d, line, e := parts.Parse(a.text)
	add(d, line, e)
	return all
}

// badPorts, badExprs and badParts are of all sorts.
func badPorts() [][]api.Port {
	return [][]api.Port{
		nil, ports(port("i", 0, 1, 0)), ports(port("i", math.MinInt, math.MaxInt, 0)), ports(port("i", math.MaxInt, math.MinInt, 0)), ports(port("\xff", 0, 0, 0)),
		ports(port("i", 0, 0, 0), port("i", 0, 0, 0)), make([]api.Port, 1000), ports(port(strings.Repeat("a", 100000), 0, 0, 0)),
	}
}

func badExprs() []api.Expr {
	var l []api.Expr
	for kind := -1; kind <= 12; kind++ {
		for _, v := range []int{0, 1, -1, math.MinInt, math.MaxInt} {
			op := api.Op{Kind: kind, Value: v}
			l = append(l, ops(op), ops(op, op, op), ops(api.Op{Kind: api.Const}, api.Op{Kind: api.Const}, api.Op{Kind: api.Const}, op))
		}
	}
	return append(l, ops(), num(0), ops(make([]api.Op, 100000)...), do(math.MinInt), do(math.MaxInt))
}

func badParts() []api.Part {
	l := []api.Part{{}, brake(), switcher(), wide("a", 0, 0, 0, 1), wide("a", 0, 0, 0, 0), wide("a", 7, 6, 6, 4), wide("a", 6, 6, 6, 1000)}
	for _, list := range badPorts() {
		for i := range 3 {
			p := wide("a", 0, 0, 0, 1)
			*[3]*[]api.Port{&p.In, &p.Out, &p.Keep}[i] = list
			p.Acts[0].Out = make([]api.Expr, len(p.Out))
			l = append(l, p, frame("b", 1, 1, p.In, p.Out))
		}
	}
	for _, x := range badExprs() {
		p := brake()
		p.Acts[0].Out[0] = x
		l = append(l, p)
		p = brake()
		p.Acts[0].Next = x
		l = append(l, p)
	}
	for _, n := range []int{math.MinInt, -1, 0, 5, 101, math.MaxInt} {
		p, q := brake(), brake()
		p.Every, q.Level = n, n
		l = append(l, p, q)
	}
	return l
}

// arguments returns arguments for all functions, most of them bad ones.
func arguments() []argument {
	r := rand.New(rand.NewSource(6))
	numbers := []int{0, 1, 2, 3, -1, 200, 201, math.MinInt, math.MaxInt}
	number := func() int { return numbers[r.Intn(len(numbers))] }
	texts := []string{"", "\n", "part", "part \n", brakeText, brakeText + gaugeText + linkText, "act\n", "link a b c d\n", "\xff\xfe\n", strings.Repeat("\n", api.MaxText), strings.Repeat("(", api.MaxText+1), head + "o = (+", head + "o = (\n", head + "o = -\n", strings.Repeat("part a every 1 level 0\n", 2800), head + "o = " + strings.Repeat("(- ", 20000) + "\n"}
	values := [][]int{nil, {}, {0}, {10}, {0, 0}, {math.MinInt}, {math.MaxInt}, make([]int, 1000), {5, 1}}
	exprs, l := badExprs(), badParts()
	var all []argument
	for range 3000 {
		a := argument{p: l[r.Intn(len(l))], x: exprs[r.Intn(len(exprs))], s: api.State{Mode: number(), Keep: values[r.Intn(len(values))]}, in: values[r.Intn(len(values))], number: number(), text: texts[r.Intn(len(texts))]}
		if r.Intn(3) == 0 {
			a.p = brake()
		}
		if r.Intn(5) == 0 {
			a.x, a.s, a.in = input(0), state(0, 10), []int{10}
		}
		switch r.Intn(5) {
		case 0:
			a.d = pair()
		case 1:
			a.d = randomDesign(r)
		case 2:
			a.d = api.Design{Parts: []api.Part{brake(), l[r.Intn(len(l))]}}
		case 3:
			a.d = many(r.Intn(20))
		}
		for range r.Intn(3) {
			a.d.Links = append(a.d.Links, api.Link{From: number(), Out: number(), To: number(), In: number()})
		}
		for range []int{0, 1, 2, 50}[r.Intn(4)] {
			a.feeds = append(a.feeds, api.Feed{Part: number(), In: number(), Values: values[r.Intn(len(values))]})
		}
		all = append(all, a)
	}
	return all
}

// P0.1: every function ends, for all arguments; results depend on arguments alone, which are not changed.
// With the rule R2: with an error every other result is its zero value (line is one of Parse's alone).
func TestAllArguments(t *testing.T) {
	good := map[int]int{}
	for _, a := range arguments() {
		before := fmt.Sprint(a)
		first := call(a)
		want(t, "the second results", call(a), first)
		if fmt.Sprint(a) != before {
			t.Fatalf("the arguments %s became %v", before, a)
		}
		for i, l := range first {
			if l[len(l)-1] == api.OK {
				good[i]++
				continue
			}
			for k, x := range l[:len(l)-1] {
				if zero := strings.Trim(fmt.Sprint(x), "{}[] 0"); zero != "" && zero != "false" && !(i == 11 && k == 1) {
					t.Fatalf("function %d returns %v", i, l)
				}
			}
		}
	}
	if len(good) != 12 {
		t.Errorf("only the functions of %v return anything without an error", good)
	}
}

// scribble changes everything that a design has.
func scribble(d api.Design) {
	for i := range d.Parts {
		p := &d.Parts[i]
		for _, list := range [3][]api.Port{p.In, p.Out, p.Keep} {
			for k := range list {
				list[k] = port("changed", 1, 2, 3)
			}
		}
		for k := range p.Acts {
			a := &p.Acts[k]
			for _, list := range [3][]api.Expr{a.Out, a.Keep, {a.Next}} {
				for n := range list {
					for m := range list[n].Ops {
						list[n].Ops[m] = api.Op{Kind: 99, Value: 99}
					}
					list[n] = num(77)
				}
			}
			*a = api.Act{}
		}
		*p = api.Part{Name: "changed"}
	}
	for i := range d.Links {
		d.Links[i] = api.Link{From: 99, Out: 99, To: 99, In: 99}
	}
}

// The rule R4: Replace returns new memory, of the design and of the part.
func TestReplaceIsNew(t *testing.T) {
	d, new := hub(), plain()
	r, e := parts.Replace(d, 1, new)
	want(t, "the error of Replace", e, api.OK)
	scribble(r)
	want(t, "the design", d, hub())
	want(t, "the part", new, plain())
	r, _ = parts.Replace(d, 1, new)
	scribble(d)
	scribble(api.Design{Parts: []api.Part{new}})
	want(t, "the result", r, hub())
	e1, e2 := pair(), pair()
	r, _ = parts.Replace(e1, 1, e2.Parts[1])
	scribble(r)
	want(t, "the design with kept things", e1, pair())
	want(t, "the design of the part", e2, pair())
}

// The rule R4: what is done with other results shows nowhere else.
func TestResultsAreNew(t *testing.T) {
	values := []int{5, 6, 7}
	feeds := []api.Feed{feed(0, 0, values...)}
	rows, _ := parts.Run(pair(), feeds, 4)
	again, _ := parts.Run(pair(), feeds, 4)
	for i := range rows {
		rows[i][0], rows[i][1] = -1, -2
		want(t, "the rows behind", rows[i+1:], again[i+1:])
	}
	want(t, "the values", feeds[0].Values, values)
	p, s, in := switcher(), state(0, 2, 3), []int{4, 1}
	out, next, _ := parts.Step(p, s, in)
	out[0], next.Keep[0] = 50, 60
	want(t, "the state", s, state(0, 2, 3))
	want(t, "the inputs", in, []int{4, 1})
	want(t, "what else Step returns", results(out[1:], next.Keep[1:]), results([]int{3}, []int{2}))
	begun, _ := parts.Begin(p)
	begun.Keep[0] = 9
	want(t, "Begin", beginOf(p), results(state(0, 7, 8), api.OK))
	want(t, "the part", p, switcher())
	d, _, _ := parts.Parse(brakeText + gaugeText + linkText)
	scribble(d)
	want(t, "Parse", parseOf(brakeText+gaugeText+linkText), results(pair(), 0, api.OK))
	l, _ := parts.Before(pair(), 1)
	l[0] = 9
	want(t, "Before", beforeOf(pair(), 1), results([]int{0}, api.OK))
}

// The rule R4: what stands behind the ends of the arguments' lists stays.
func TestSpareCapacity(t *testing.T) {
	d := pair()
	p := &d.Parts[0]
	in, out := append(make([]api.Port, 0, 8), p.In...), append(make([]api.Port, 0, 8), p.Out...)
	p.In, p.Out = in, out
	links := append(make([]api.Link, 0, 8), d.Links...)
	d.Links = links
	x := append(make([]api.Op, 0, 8), p.Acts[0].Out[0].Ops...)
	p.Acts[0].Out[0].Ops = x
	feeds := append(make([]api.Feed, 0, 8), feed(0, 0, 1))
	parts.Run(d, feeds, 3)
	parts.Format(d)
	parts.Replace(d, 0, *p)
	parts.Replace(d, 1, gauge("new"))
	want(t, "what stands behind", results(in[1:8], out[1:8], links[1:8], x[3:8], feeds[1:8]), results(make([]api.Port, 7), make([]api.Port, 7), make([]api.Link, 7), make([]api.Op, 5), make([]api.Feed, 7)))
}
