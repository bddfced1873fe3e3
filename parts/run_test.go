package parts_test

import (
	"math"
	"math/rand"
	"slices"
	"testing"

	"ignition/api"
	"ignition/parts"
)

// runOf returns all results of Run.
func runOf(d api.Design, feeds []api.Feed, ticks int) []any {
	rows, e := parts.Run(d, feeds, ticks)
	return results(rows, e)
}

// feed makes a feed.
func feed(part, in int, values ...int) api.Feed { return api.Feed{Part: part, In: in, Values: values} }

// P2.7: the example, and what a linked input reads.
func TestRun(t *testing.T) {
	one := api.Design{Parts: []api.Part{brake()}}
	want(t, "Run of the brake", runOf(one, []api.Feed{feed(0, 0, 5, 6, 7, 8)}, 4), results([][]int{{5}, {5}, {12}, {12}}, api.OK))
	want(t, "Run of the pair", runOf(pair(), []api.Feed{feed(0, 0, 5, 6, 7, 8)}, 4), results([][]int{{5, 0}, {5, 5}, {12, 5}, {12, 12}}, api.OK))
	want(t, "Run of the pair without feeds", runOf(pair(), nil, 2), results([][]int{{0, 0}, {0, 0}}, api.OK))
	want(t, "Run of nothing", runOf(api.Design{}, nil, 3), results([][]int{{}, {}, {}}, api.OK))
	want(t, "Run of a part without outputs", runOf(api.Design{Parts: []api.Part{wide("a", 1, 0, 1, 1)}}, nil, 2), results([][]int{{}, {}}, api.OK))
	want(t, "Run of an open input", runOf(api.Design{Parts: []api.Part{gauge("a")}}, nil, 2), results([][]int{{9}, {9}}, api.OK))
	want(t, "Run for no ticks", runOf(pair(), nil, 0), results([][]int{}, api.OK))
}

// P2.7: all parts read before any of them writes, whatever their order is; an output that has not been written has its Start.
func TestRunReadsBeforeWriting(t *testing.T) {
	d := api.Design{Parts: []api.Part{gauge("a"), gauge("b"), gauge("c")}}
	d.Parts[1].Out[0].Start, d.Parts[2].Out[0].Start = 20, 30
	d.Links = []api.Link{{From: 0, To: 1}, {From: 1, To: 2}, {From: 2, To: 0}}
	want(t, "Run of a ring", runOf(d, nil, 4), results([][]int{{30, 7, 20}, {20, 30, 7}, {7, 20, 30}, {30, 7, 20}}, api.OK))
	d.Links = []api.Link{{From: 0, To: 0}, {From: 2, To: 1}}
	want(t, "Run of a part that reads itself", runOf(d, []api.Feed{feed(2, 0, 1, 2)}, 3), results([][]int{{7, 30, 1}, {7, 1, 2}, {7, 2, 2}}, api.OK))
	d.Links = []api.Link{{From: 0, To: 2}}
	d.Parts[0].Every, d.Parts[1].Every, d.Parts[2].Every = 2, 3, 100
	want(t, "Run of three paces", runOf(d, []api.Feed{feed(0, 0, 1, 2, 3), feed(1, 0, 10, 11, 12, 13, 14)}, 7), results([][]int{{1, 10, 7}, {1, 10, 7}, {3, 10, 7}, {3, 13, 7}, {3, 13, 7}, {3, 13, 7}, {3, 14, 7}}, api.OK))
}

// P2.7: all outputs stand in a row, part by part, and links know them by their numbers.
func TestRunRows(t *testing.T) {
	two := wide("two", 2, 2, 0, 1)
	two.Acts[0].Out = []api.Expr{input(1), input(0)}
	one := wide("one", 3, 1, 0, 1)
	one.Acts[0].Out = []api.Expr{clamped(do(api.Add, do(api.Mul, input(0), num(4)), do(api.Add, input(1), do(api.Mul, input(2), num(-1)))), -5, 5)}
	d := api.Design{Parts: []api.Part{wide("none", 1, 0, 1, 1), two, one}, Links: []api.Link{{From: 1, Out: 1, To: 2, In: 1}, {From: 2, Out: 0, To: 1, In: 1}, {From: 1, Out: 0, To: 2, In: 2}}}
	feeds := []api.Feed{feed(2, 0, 0, 1, 0), feed(1, 0, 2, -3, 4)}
	want(t, "Run of rows", runOf(d, feeds, 4), results([][]int{{1, 2, 0}, {0, -3, 5}, {5, 4, -3}, {-3, 4, -1}}, api.OK))
}

// P2.7: a feed has as many values as ticks, or fewer, or more.
func TestRunFeeds(t *testing.T) {
	d := api.Design{Parts: []api.Part{gauge("a")}}
	var values []int
	var rows [][]int
	for i := range 200 {
		values = append(values, 200-i)
		rows = append(rows, []int{200 - i})
	}
	want(t, "Run for 200 ticks", runOf(d, []api.Feed{feed(0, 0, values...)}, 200), results(rows, api.OK))
	want(t, "Run for fewer ticks", runOf(d, []api.Feed{feed(0, 0, values...)}, 3), results(rows[:3], api.OK))
	want(t, "Run with one value", runOf(d, []api.Feed{feed(0, 0, 3)}, 3), results([][]int{{3}, {3}, {3}}, api.OK))
	all := many(12)
	var feeds []api.Feed
	for i := range 41 {
		feeds = append(feeds, feed(i/6, i%6, 0))
	}
	want(t, "the error of Run with 40 feeds", runOf(all, feeds[:40], 0)[1], api.OK)
	want(t, "Run with 41 feeds", runOf(all, feeds, 0), results([][]int{}, api.ErrMany))
}

// P2.7: the errors of Run.
func TestRunErrors(t *testing.T) {
	long := slices.Repeat([]int{1}, 201)
	for _, c := range []struct {
		feeds []api.Feed
		ticks int
		e     api.Errno
	}{
		{[]api.Feed{feed(0, 0, 0)}, 200, api.OK}, {[]api.Feed{feed(0, 0, 100)}, 0, api.OK}, {[]api.Feed{feed(0, 0, long[:200]...)}, 1, api.OK}, {[]api.Feed{{Part: 2, Values: []int{1}}, feed(0, 0, 1)}, 1, api.OK},
		{[]api.Feed{feed(-1, 0, 0)}, 1, api.ErrFeed}, {[]api.Feed{feed(3, 0, 0)}, 1, api.ErrFeed}, {[]api.Feed{feed(0, -1, 0)}, 1, api.ErrFeed}, {[]api.Feed{feed(0, 1, 0)}, 1, api.ErrFeed},
		{[]api.Feed{feed(math.MinInt, 0, 0)}, 1, api.ErrFeed}, {[]api.Feed{feed(math.MaxInt, 0, 0)}, 1, api.ErrFeed}, {[]api.Feed{feed(0, math.MinInt, 0)}, 1, api.ErrFeed}, {[]api.Feed{feed(0, math.MaxInt, 0)}, 1, api.ErrFeed},
		{[]api.Feed{feed(1, 0, 5)}, 1, api.ErrFeed}, {[]api.Feed{feed(0, 0, 1), feed(2, 0, 1), feed(0, 0, 1)}, 1, api.ErrFeed},
		{[]api.Feed{feed(0, 0)}, 1, api.ErrFeed}, {[]api.Feed{feed(0, 0, long...)}, 1, api.ErrFeed},
		{[]api.Feed{feed(0, 0, -1)}, 1, api.ErrFeed}, {[]api.Feed{feed(0, 0, 101)}, 1, api.ErrFeed}, {[]api.Feed{feed(0, 0, 1, 1, 101)}, 1, api.ErrFeed}, {[]api.Feed{feed(0, 0, 1, math.MinInt)}, 1, api.ErrFeed}, {[]api.Feed{feed(0, 0, math.MaxInt, 1)}, 1, api.ErrFeed},
		{nil, -1, api.ErrArg}, {nil, 201, api.ErrArg}, {nil, math.MinInt, api.ErrArg}, {nil, math.MaxInt, api.ErrArg}, {[]api.Feed{feed(0, 0)}, -1, api.ErrFeed},
		{slices.Repeat([]api.Feed{feed(0, 0)}, 40), -1, api.ErrFeed}, {slices.Repeat([]api.Feed{feed(0, 0)}, 41), -1, api.ErrMany},
	} {
		d := pair()
		d.Parts = append(d.Parts, gauge("free"))
		r := runOf(d, c.feeds, c.ticks)
		want(t, "the error of Run", r[1], c.e)
		if c.e != api.OK {
			want(t, "Run", r, results([][]int{}, c.e))
		}
	}
	d := pair()
	d.Links[0].Out = 1
	want(t, "Run of a bad design", runOf(d, make([]api.Feed, 41), -1), results([][]int{}, api.ErrLink))
}

// play is the plain definition of Run, by way of Step.
func play(t *testing.T, d api.Design, feeds []api.Feed, ticks int) [][]int {
	last := map[[2]int]int{}
	states := make([]api.State, len(d.Parts))
	for i, p := range d.Parts {
		states[i], _ = parts.Begin(p)
		for k, o := range p.Out {
			last[[2]int{i, k}] = o.Start
		}
	}
	var rows [][]int
	for tick := range ticks {
		now := map[[2]int]int{}
		var row []int
		for i, p := range d.Parts {
			for k := range p.Out {
				now[[2]int{i, k}] = last[[2]int{i, k}]
			}
			if tick%p.Every == 0 {
				out, next, e := parts.Step(p, states[i], read(d, feeds, last, i, tick))
				want(t, "the error of Step in a run", e, api.OK)
				for k, v := range out {
					now[[2]int{i, k}] = v
				}
				states[i] = next
			}
			for k := range p.Out {
				row = append(row, now[[2]int{i, k}])
			}
		}
		last = now
		rows = append(rows, row)
	}
	return rows
}

// read returns what a part reads in a tick.
func read(d api.Design, feeds []api.Feed, last map[[2]int]int, part, tick int) []int {
	var in []int
	for k, p := range d.Parts[part].In {
		v := p.Start
		for _, f := range feeds {
			if f.Part == part && f.In == k {
				v = slices.Concat(f.Values, slices.Repeat(f.Values[len(f.Values)-1:], tick))[tick]
			}
		}
		for _, l := range d.Links {
			if l.To == part && l.In == k {
				v = last[[2]int{l.From, l.Out}]
			}
		}
		in = append(in, v)
	}
	return in
}

// P2.7, P2.14, P2.15: a run is that of the plain definition, leaves no range, and begins as shorter ones.
func TestRandomRun(t *testing.T) {
	randomly(t, 1000, func(r *rand.Rand, d api.Design) {
		feeds := randomFeeds(r, d)
		ticks := r.Intn(15)
		rows := play(t, d, feeds, ticks)
		want(t, "Run", runOf(d, feeds, ticks), results(rows, api.OK))
		want(t, "a shorter run", runOf(d, feeds, ticks/2), results(rows[:ticks/2], api.OK))
		for _, row := range rows {
			for _, p := range d.Parts {
				for k, o := range p.Out {
					if row[k] < o.Low || row[k] > o.High {
						t.Errorf("%d leaves the range of %+v", row[k], o)
					}
				}
				row = row[len(p.Out):]
			}
		}
	})
}

// column returns what a part writes in a run.
func column(d api.Design, rows [][]int, part int) [][]int {
	from := 0
	for _, p := range d.Parts[:part] {
		from += len(p.Out)
	}
	var l [][]int
	for _, row := range rows {
		l = append(l, row[from:from+len(d.Parts[part].Out)])
	}
	return l
}

// P2.15: what is fed to parts that are not before a part does not change what it writes.
func TestFeedsOfOthers(t *testing.T) {
	changed := 0
	randomly(t, 1000, func(r *rand.Rand, d api.Design) {
		if len(d.Parts) == 0 {
			return
		}
		part := r.Intn(len(d.Parts))
		before, _ := parts.Before(d, part)
		one, _ := parts.Run(d, randomFeeds(r, d), 12)
		first := randomFeeds(r, d)
		var second []api.Feed
		for _, f := range first {
			if f.Part == part || slices.Contains(before, f.Part) {
				second = append(second, f)
			}
		}
		a, _ := parts.Run(d, first, 12)
		b, _ := parts.Run(d, second, 12)
		want(t, "what a part writes", column(d, b, part), column(d, a, part))
		if len(one) == 12 && !slices.EqualFunc(column(d, one, part), column(d, a, part), slices.Equal) {
			changed++
		}
	})
	if changed < 100 {
		t.Errorf("other feeds of all parts change what a part writes only %d times", changed)
	}
}
