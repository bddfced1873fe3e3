package loom_test

import (
	"math"
	"math/rand"
	"slices"
	"testing"

	"ignition/api"
)

// P6.4, P6.12: the examples, and variants that are not buildable.
func TestFills(t *testing.T) {
	for _, l := range []api.Loom{example(), ruled(api.Formula{api.No})} {
		want(t, "Carried", carriedOf(l, 0, []bool{false, true}), results([]int{1, 2}, api.OK))
		want(t, "Carried of all", carriedOf(l, 0, []bool{true, true}), results([]int{0, 1, 2}, api.OK))
		want(t, "Carried of none", carriedOf(l, 0, []bool{false, false}), results([]int{}, api.OK))
		want(t, "Carried in another run", carriedOf(l, 2, []bool{true, true}), results([]int{1, 2}, api.OK))
		want(t, "Fill", fillOf(l, 0, []bool{false, true}), results(3, api.OK))
		want(t, "Fill of all", fillOf(l, 0, []bool{true, true}), results(5, api.OK))
		want(t, "Fill of none", fillOf(l, 0, []bool{false, false}), results(0, api.OK))
		want(t, "Fill of another run", fillOf(l, 1, []bool{true, true}), results(2, api.OK))
		want(t, "Copper", copperOf(l, []bool{true, true}), results(160*2+210*2+210, api.OK))
		want(t, "Copper of heat", copperOf(l, []bool{false, true}), results(210*3, api.OK))
		want(t, "Copper of none", copperOf(l, []bool{false, false}), results(0, api.OK))
	}
	l := example()
	l.Wires[2].To = api.Pin{Cavity: 1}
	want(t, "Carried without a wire within a plug", carriedOf(l, 0, []bool{true, true}), results([]int{0, 1}, api.OK))
	want(t, "Copper without a wire within a plug", copperOf(l, []bool{true, true}), results(160*2+210*2, api.OK))
	l = greatest()
	all := slices.Repeat([]bool{true}, api.MaxOptions)
	for i := range l.Wires {
		l.Wires[i].Size = api.MaxArea
	}
	for i := range l.Runs {
		l.Runs[i].Length = api.MaxLength
	}
	want(t, "the greatest Fill", fillOf(l, 15, all), results(60*api.MaxArea, api.OK))
	want(t, "the greatest Copper", copperOf(l, all), results((40*29+20*27)*api.MaxLength*api.MaxArea, api.OK))
}

// P6.4, P6.5, P6.12: runs that are not there, and variants of another length.
func TestFillErrors(t *testing.T) {
	none := results(0, api.ErrArg)
	for _, n := range []int{-1, 3, math.MinInt, math.MaxInt} {
		want(t, "Carried", carriedOf(example(), n, []bool{true, true}), results([]int{}, api.ErrArg))
		want(t, "Fill", fillOf(example(), n, []bool{true, true}), none)
		want(t, "Worst", worstOf(example(), n), results(0, []bool{}, api.ErrArg))
		want(t, "Worst without variants", worstOf(ruled(api.Formula{api.No}), n), results(0, []bool{}, api.ErrArg))
	}
	want(t, "Worst with one spot", worstOf(line(1), 0), results(0, []bool{}, api.ErrArg))
	for _, n := range []int{0, 1, 3, 1000} {
		want(t, "Carried", carriedOf(example(), 0, make([]bool, n)), results([]int{}, api.ErrArg))
		want(t, "Fill", fillOf(example(), 0, make([]bool, n)), none)
		want(t, "Copper", copperOf(example(), make([]bool, n)), none)
		l := changed(func(l *api.Loom) { l.Wires = nil })
		want(t, "Carried without wires", carriedOf(l, 0, make([]bool, n)), results([]int{}, api.ErrArg))
		want(t, "Copper without wires", copperOf(l, make([]bool, n)), none)
	}
}

// P6.5, P6.6: the examples, and what rules change.
func TestWorst(t *testing.T) {
	l := example()
	want(t, "Worst", worstOf(l, 0), results(5, []bool{true, true}, api.OK))
	want(t, "Worst of the run 1", worstOf(l, 1), results(2, []bool{true, false}, api.OK))
	want(t, "Worst of the run 2", worstOf(l, 2), results(3, []bool{false, true}, api.OK))
	want(t, "Tight", tightOf(l), results([]int{}, api.OK))
	l.Runs[0].Room, l.Runs[1].Room, l.Runs[2].Room = 4, 2, 2
	want(t, "Tight with less room", tightOf(l), results([]int{0, 2}, api.OK))
	l.Model.Rules = []api.Formula{{api.Not, api.And, 0, 1}}
	want(t, "Worst with one of both", worstOf(l, 0), results(3, []bool{false, true}, api.OK))
	want(t, "Tight with one of both", tightOf(l), results([]int{2}, api.OK))
	l.Wires[0].Size = 3
	want(t, "Worst of two variants that have it", worstOf(l, 0), results(3, []bool{false, true}, api.OK))
	l.Runs[0].Room, l.Runs[1].Room, l.Runs[2].Room = 0, 0, 0
	want(t, "Tight without room", tightOf(l), results([]int{0, 1, 2}, api.OK))
	l.Model.Rules = []api.Formula{{0}, {api.Not, 1}}
	want(t, "Worst of a run that nothing fills", worstOf(l, 2), results(0, []bool{true, false}, api.OK))
	want(t, "Tight of a run that nothing fills", tightOf(l), results([]int{0, 1}, api.OK))
	l.Model.Rules = []api.Formula{{api.And, 0, api.Not, 0}}
	want(t, "Worst without variants", worstOf(l, 0), results(0, []bool{}, api.ErrBuild))
	want(t, "Tight without variants", tightOf(l), results([]int{}, api.OK))
	want(t, "Worst without wires", worstOf(line(2), 0), results(0, []bool{}, api.OK))
	want(t, "Tight without wires", tightOf(line(2)), results([]int{}, api.OK))
}

// P6.5: random looms. P6.4, P6.12: all of their variants.
func TestFillsRandomly(t *testing.T) {
	randomly(t, func(r *rand.Rand, l api.Loom) {
		for run := range l.Runs {
			want(t, "Worst", worstOf(l, run), worst(l, run))
		}
		far := distances(l)
		for _, v := range variants(len(l.Model.Options)) {
			copper := 0
			for _, w := range l.Wires {
				if from, to := ends(l, w); holds(w.Form, v) {
					copper += far[from][to] * w.Size
				}
			}
			want(t, "Copper", copperOf(l, v), results(copper, api.OK))
			for run := range l.Runs {
				want(t, "Carried", carriedOf(l, run, v), results(carried(l, run, v), api.OK))
				want(t, "Fill", fillOf(l, run, v), results(fill(l, run, v), api.OK))
			}
		}
	})
}

// tight is the plain definition of Tight.
func tight(l api.Loom) []int {
	var runs []int
	for run, r := range l.Runs {
		if most := worst(l, run)[0].(int); most > r.Room {
			runs = append(runs, run)
		}
	}
	return runs
}

// P6.6: random looms, with rooms that are just enough for what some buildable variants need, or one less.
func TestTightRandomly(t *testing.T) {
	randomly(t, func(r *rand.Rand, l api.Loom) {
		want(t, "Tight", tightOf(l), results(tight(l), api.OK))
		for range 3 {
			for run := range l.Runs {
				l.Runs[run].Room = max(0, worst(l, run)[0].(int)-r.Intn(2))
			}
			want(t, "Tight", tightOf(l), results(tight(l), api.OK))
		}
	})
}

// P6.7: the examples, and pins that are shared in all ways.
func TestClashes(t *testing.T) {
	want(t, "Clashes", clashesOf(example()), results([]api.Pair{{Left: 0, Right: 2}}, api.OK))
	for _, rule := range []api.Formula{{api.Not, api.And, 0, 1}, {api.Not, 0}, {api.No}} {
		want(t, "Clashes of wires that do not go together", clashesOf(ruled(rule)), results([]api.Pair{}, api.OK))
	}
	never := changed(func(l *api.Loom) { l.Wires[2].Form = api.Formula{api.No} })
	want(t, "Clashes with a wire that is never there", clashesOf(never), results([]api.Pair{}, api.OK))
	for _, ends := range [][2]api.Pin{{{}, {Plug: 2}}, {{Plug: 2}, {}}, {{Plug: 1}, {Cavity: 1}}, {{Cavity: 1}, {Plug: 1}}, {{}, {Plug: 1}}, {{Plug: 1}, {}}} {
		l := changed(func(l *api.Loom) {
			l.Wires[1].From, l.Wires[1].To, l.Wires[2].From = ends[0], ends[1], api.Pin{Plug: 1, Cavity: 1}
		})
		want(t, "Clashes of x and y", clashesOf(l)[0].([]api.Pair)[0], api.Pair{Left: 0, Right: 1})
	}
	l := changed(func(l *api.Loom) {
		l.Wires[1].From = api.Pin{}
		l.Wires[2].Form = api.Formula{api.Not, 0}
	})
	want(t, "Clashes of three wires", clashesOf(l), results([]api.Pair{{Left: 0, Right: 1}, {Left: 1, Right: 2}}, api.OK))
	l.Wires[2].Form = api.Formula{api.Yes}
	want(t, "Clashes of each two of three wires", clashesOf(l), results([]api.Pair{{Left: 0, Right: 1}, {Left: 0, Right: 2}, {Left: 1, Right: 2}}, api.OK))
	want(t, "Clashes without wires", clashesOf(line(1)), results([]api.Pair{}, api.OK))
	same := changed(func(l *api.Loom) { l.Wires[2].From = api.Pin{Plug: 1, Cavity: 1} })
	want(t, "Clashes of the same cavity of other plugs", clashesOf(same), results([]api.Pair{}, api.OK))
}

// clashes is the plain definition of Clashes.
func clashes(l api.Loom) []api.Pair {
	var pairs []api.Pair
	for i, a := range l.Wires {
		for k, b := range l.Wires[i+1:] {
			shared := slices.ContainsFunc([]api.Pin{a.From, a.To}, func(p api.Pin) bool { return p == b.From || p == b.To })
			both := func(v []bool) bool { return holds(a.Form, v) && holds(b.Form, v) }
			if shared && slices.ContainsFunc(built(l), both) {
				pairs = append(pairs, api.Pair{Left: i, Right: i + 1 + k})
			}
		}
	}
	return pairs
}

// P6.11: the examples; forms that hold only because of rules; no buildable variant.
func TestSorts(t *testing.T) {
	want(t, "Sorts", sortsOf(example()), results([]int{}, []int{}, api.OK))
	want(t, "Sorts with tow", sortsOf(ruled(api.Formula{0})), results([]int{0}, []int{}, api.OK))
	want(t, "Sorts with tow and without heat", sortsOf(ruled(api.Formula{0}, api.Formula{api.Not, 1})), results([]int{0}, []int{1, 2}, api.OK))
	want(t, "Sorts without both", sortsOf(ruled(api.Formula{api.Not, api.Or, 0, 1})), results([]int{}, []int{0, 1, 2}, api.OK))
	want(t, "Sorts without variants", sortsOf(ruled(api.Formula{0}, api.Formula{api.Not, 0})), results([]int{}, []int{}, api.ErrBuild))
	want(t, "Sorts without wires", sortsOf(line(1)), results([]int{}, []int{}, api.OK))
	l := line(1)
	l.Model.Rules = []api.Formula{{api.No}}
	want(t, "Sorts without wires and variants", sortsOf(l), results([]int{}, []int{}, api.ErrBuild))
	always := append(api.Formula{api.Or, api.Yes}, nots(98)...)
	never := append(api.Formula{api.And, api.No}, nots(98)...)
	some := append(api.Formula{api.Or, 0}, nots(98)...) // nots(98) never holds
	l = changed(func(l *api.Loom) { l.Wires[0].Form, l.Wires[1].Form, l.Wires[2].Form = always, never, some })
	want(t, "Sorts of formulas that are as long as they may be", sortsOf(l), results([]int{0}, []int{1}, api.OK))
}

// P6.7, P6.11: random looms.
func TestSortsRandomly(t *testing.T) {
	randomly(t, func(r *rand.Rand, l api.Loom) {
		want(t, "Clashes", clashesOf(l), results(clashes(l), api.OK))
		var always, never []int
		all := built(l)
		if len(all) == 0 {
			want(t, "Sorts", sortsOf(l), results(always, never, api.ErrBuild))
			return
		}
		for i, w := range l.Wires {
			n := 0
			for _, v := range all {
				if holds(w.Form, v) {
					n++
				}
			}
			if n == len(all) {
				always = append(always, i)
			} else if n == 0 {
				never = append(never, i)
			}
		}
		want(t, "Sorts", sortsOf(l), results(always, never, api.OK))
	})
}
