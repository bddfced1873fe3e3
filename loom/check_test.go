package loom_test

import (
	"math"
	"slices"
	"strings"
	"testing"

	"ignition/api"
	"ignition/loom"
)

// change changes a loom.
type change = func(l *api.Loom)

// fails reports if Check of the example with changes is not as it should be.
func fails(t *testing.T, what string, should api.Errno, changes ...change) {
	t.Helper()
	want(t, "Check of "+what, loom.Check(changed(changes...)), should)
}

// beyond returns numbers outside of bounds.
func beyond(low, high int) []int { return []int{low - 1, high + 1, math.MinInt, math.MaxInt} }

// P6.1: looms that are valid.
func TestCheckOfValid(t *testing.T) {
	want(t, "Check of the example", loom.Check(example()), api.OK)
	want(t, "Check of one spot without runs", loom.Check(api.Loom{Spots: []api.Spot{{X: 1, Y: 2, Z: 3}}}), api.OK)
	want(t, "Check of as much of everything as there may be", loom.Check(greatest()), api.OK)
	fails(t, "two plugs at one spot", api.OK, func(l *api.Loom) { l.Plugs[1].Spot = 0 })
	fails(t, "a wire whose ends are at one spot", api.OK, func(l *api.Loom) { l.Wires[0].To = api.Pin{Cavity: 1} })
	fails(t, "wires with the same pins", api.OK, func(l *api.Loom) { l.Wires[1].From, l.Wires[1].To = l.Wires[0].From, l.Wires[0].To })
	fails(t, "a plug and a wire of one name", api.OK, func(l *api.Loom) { l.Wires[0].Name = "a" })
	fails(t, "two spots at one place", api.OK, func(l *api.Loom) { l.Spots[2], l.Runs[1].Length = l.Spots[1], 1 })
	fails(t, "no buildable variant", api.OK, func(l *api.Loom) { l.Model.Rules = []api.Formula{{api.No}} })
	fails(t, "no wires", api.OK, func(l *api.Loom) { l.Wires = nil })
	fails(t, "no wires and plugs", api.OK, func(l *api.Loom) { l.Wires, l.Plugs = nil, nil })
}

// P6.1: the errors of the model come first.
func TestCheckModel(t *testing.T) {
	bad := func(l *api.Loom) { l.Spots = make([]api.Spot, api.MaxSpots+1) }
	fails(t, "41 options", api.ErrMany, func(l *api.Loom) { l.Model = free(41) })
	fails(t, "a bad option", api.ErrOption, bad, func(l *api.Loom) { l.Model.Options[1] = "yes" })
	fails(t, "an option twice", api.ErrOption, bad, func(l *api.Loom) { l.Model.Options[1] = "tow" })
	fails(t, "a bad rule", api.ErrFormula, bad, func(l *api.Loom) { l.Model.Rules = []api.Formula{{2}} })
	want(t, "Check of nothing", loom.Check(api.Loom{}), api.ErrTree)
	want(t, "Check of a bad model alone", loom.Check(api.Loom{Model: api.Model{Options: []string{""}}}), api.ErrOption)
}

// P6.1: how many there may be; ErrMany comes before all errors but those of the model.
func TestCheckCounts(t *testing.T) {
	for _, x := range []struct {
		what   string
		change change
	}{
		{"41 spots", func(l *api.Loom) { l.Spots = append(l.Spots, api.Spot{X: 400}) }},
		{"41 runs", func(l *api.Loom) { l.Runs = append(l.Runs, l.Runs[0], l.Runs[0]) }},
		{"31 plugs", func(l *api.Loom) { l.Plugs = append(l.Plugs, api.Plug{Name: "zz", Cavities: 1}) }},
		{"61 wires", func(l *api.Loom) {
			l.Wires = append(l.Wires, api.Wire{Name: "zz", To: api.Pin{Plug: 5}, Size: 1, Form: api.Formula{0}})
		}},
	} {
		l := greatest()
		x.change(&l)
		want(t, "Check with "+x.what, loom.Check(l), api.ErrMany)
		l.Spots[0].X, l.Runs[0].Length, l.Plugs[0].Name, l.Wires[0].Name = math.MinInt, 0, "", ""
		want(t, "Check with more errors and "+x.what, loom.Check(l), api.ErrMany)
	}
	l := greatest()
	l.Runs = append(l.Runs, l.Runs[0])
	want(t, "Check of 40 runs", loom.Check(l), api.ErrTree)
	l = line(41)
	want(t, "Check of 41 spots and 40 runs", loom.Check(l), api.ErrMany)
}

// P6.1: coordinates.
func TestCheckSpots(t *testing.T) {
	set := func(coordinate, n int) change {
		return func(l *api.Loom) {
			*[]*int{&l.Spots[3].X, &l.Spots[3].Y, &l.Spots[3].Z}[coordinate] = n
			l.Runs[2].Length = api.MaxLength
		}
	}
	for coordinate := range 3 {
		for _, n := range []int{-100000, 100000} {
			fails(t, "a spot at the edge", api.OK, set(coordinate, n))
		}
		for _, n := range beyond(-100000, 100000) {
			fails(t, "a spot beyond the edge", api.ErrSpot, set(coordinate, n))
		}
	}
}

// P6.1: lengths, rooms and ends of runs.
func TestCheckRuns(t *testing.T) {
	for _, n := range beyond(0, 3) {
		fails(t, "no spot at A", api.ErrTree, func(l *api.Loom) { l.Runs[1].A = n })
		fails(t, "no spot at B", api.ErrTree, func(l *api.Loom) { l.Runs[1].B = n })
	}
	for _, n := range []int{0, api.MaxRoom} {
		fails(t, "a room", api.OK, func(l *api.Loom) { l.Runs[1].Room = n })
	}
	for _, n := range beyond(0, api.MaxRoom) {
		fails(t, "a bad room", api.ErrTree, func(l *api.Loom) { l.Runs[1].Room = n })
	}
	fails(t, "the greatest length", api.OK, func(l *api.Loom) { l.Runs[1].Length = api.MaxLength })
	for _, n := range append(beyond(1, api.MaxLength), -1, -50, 1<<32, -1<<32, 1<<32+50) {
		fails(t, "a bad length", api.ErrTree, func(l *api.Loom) { l.Runs[1].Length = n })
		fails(t, "a bad length between spots at one place", api.ErrTree, func(l *api.Loom) { l.Spots[2], l.Runs[1].Length = l.Spots[1], n })
	}
	fails(t, "a run from a spot to itself", api.ErrTree, func(l *api.Loom) { l.Runs[1].A = 2 })
}

// P6.1: the length of a run is at least the distance of its spots in space.
func TestCheckLengths(t *testing.T) {
	for _, x := range []struct {
		a, b  api.Spot
		least int
	}{
		{api.Spot{}, api.Spot{}, 1},
		{api.Spot{X: 3}, api.Spot{Y: 4}, 5},
		{api.Spot{X: 1, Y: 2, Z: 3}, api.Spot{X: 3, Y: 5, Z: -3}, 7},
		{api.Spot{}, api.Spot{X: 1, Y: 1, Z: 1}, 2},
		{api.Spot{X: -2}, api.Spot{X: 2, Y: 1}, 5},
		{api.Spot{Z: -7}, api.Spot{Z: 7}, 14},
		{api.Spot{X: -100000}, api.Spot{X: 100000}, 200000},
		{api.Spot{X: -100000, Y: 100000, Z: -100000}, api.Spot{X: 100000, Y: -100000, Z: 100000}, 346411},
		{api.Spot{X: -30000, Y: 40000, Z: 0}, api.Spot{X: 30000, Y: -40000, Z: 0}, 100000},
	} {
		for length, should := range map[int]api.Errno{x.least: api.OK, x.least - 1: api.ErrTree} {
			l := api.Loom{Spots: []api.Spot{x.a, x.b}, Runs: []api.Run{{A: 0, B: 1, Length: length}}}
			want(t, "Check of a run", loom.Check(l), should)
			l.Runs[0].A, l.Runs[0].B = 1, 0
			want(t, "Check of a run the other way", loom.Check(l), should)
		}
	}
}

// P6.1: runs that do not form a tree.
func TestCheckTree(t *testing.T) {
	want(t, "Check without spots", loom.Check(api.Loom{Runs: []api.Run{}}), api.ErrTree)
	want(t, "Check without spots, with a run", loom.Check(api.Loom{Runs: []api.Run{{A: 0, B: 1, Length: 1}}}), api.ErrTree)
	want(t, "Check of one spot with a run", loom.Check(api.Loom{Spots: []api.Spot{{}}, Runs: []api.Run{{A: 0, B: 0, Length: 1}}}), api.ErrTree)
	fails(t, "too few runs", api.ErrTree, func(l *api.Loom) { l.Runs = l.Runs[:2] })
	fails(t, "too many runs", api.ErrTree, func(l *api.Loom) { l.Runs = append(l.Runs, api.Run{A: 0, B: 2, Length: 200}) })
	fails(t, "a run twice", api.ErrTree, func(l *api.Loom) { l.Runs[2] = l.Runs[1] })
	fails(t, "a run there and back", api.ErrTree, func(l *api.Loom) { l.Runs[2] = api.Run{A: 2, B: 1, Length: 50} })
	fails(t, "a ring", api.ErrTree, func(l *api.Loom) { l.Runs[2] = api.Run{A: 2, B: 0, Length: 200} })
	fails(t, "a ring without the spot 0", api.ErrTree, func(l *api.Loom) { l.Runs[0] = api.Run{A: 2, B: 3, Length: 200} })
	l := line(api.MaxSpots)
	for i := range l.Runs {
		l.Runs[i] = api.Run{A: i / 2, B: i + 1, Length: 1000}
	}
	want(t, "Check of a wide tree", loom.Check(l), api.OK)
	l.Runs[38].A, l.Runs[20].A = 20, 39
	want(t, "Check of a tree in another order", loom.Check(l), api.OK)
	l.Runs[19].A = 21
	want(t, "Check of a ring in the tree", loom.Check(l), api.ErrTree)
}

// names are those of plugs and wires, and what is none.
func names() (good, bad []string) {
	good = []string{"q", "abcdefgh", "yes", "no", "zzzzzzzz"}
	bad = []string{"", "abcdefghi", "A", "q1", "1", "q q", "q\n", "\xff", "ä", "`", "{", "\x00", strings.Repeat("a", 10000)}
	return good, bad
}

// P6.1: plugs.
func TestCheckPlugs(t *testing.T) {
	good, bad := names()
	for _, name := range good {
		fails(t, "a plug called "+name, api.OK, func(l *api.Loom) { l.Plugs[1].Name = name })
	}
	for _, name := range append(bad, "a") {
		fails(t, "a plug that may not be called so", api.ErrPlug, func(l *api.Loom) { l.Plugs[1].Name = name })
	}
	for _, n := range beyond(0, 3) {
		fails(t, "a plug at no spot", api.ErrPlug, func(l *api.Loom) { l.Plugs[2].Spot = n })
	}
	fails(t, "40 cavities", api.OK, func(l *api.Loom) { l.Plugs[2].Cavities, l.Wires[2].To.Cavity = 40, 39 })
	fails(t, "one cavity", api.OK, func(l *api.Loom) { l.Plugs[1].Cavities = 1 })
	for _, n := range beyond(1, api.MaxCavities) {
		fails(t, "cavities", api.ErrPlug, func(l *api.Loom) { l.Plugs[2].Cavities = n })
	}
}

// P6.1: wires.
func TestCheckWires(t *testing.T) {
	good, bad := names()
	for _, name := range good {
		fails(t, "a wire called "+name, api.OK, func(l *api.Loom) { l.Wires[1].Name = name })
	}
	for _, name := range append(bad, "x") {
		fails(t, "a wire that may not be called so", api.ErrWire, func(l *api.Loom) { l.Wires[1].Name = name })
	}
	for _, n := range beyond(0, 2) {
		fails(t, "no plug it comes from", api.ErrWire, func(l *api.Loom) { l.Wires[1].From.Plug = n })
		fails(t, "no plug it leads to", api.ErrWire, func(l *api.Loom) { l.Wires[1].To.Plug = n })
	}
	for _, n := range beyond(0, 1) {
		fails(t, "no cavity it comes from", api.ErrWire, func(l *api.Loom) { l.Wires[1].From.Cavity = n })
		fails(t, "no cavity it leads to", api.ErrWire, func(l *api.Loom) { l.Wires[1].To.Cavity = n })
	}
	fails(t, "a wire from a pin to itself", api.ErrWire, func(l *api.Loom) { l.Wires[2].To = l.Wires[2].From })
	fails(t, "a wire without plugs", api.ErrWire, func(l *api.Loom) { l.Plugs = nil })
	for _, n := range []int{1, api.MaxArea} {
		fails(t, "a size", api.OK, func(l *api.Loom) { l.Wires[2].Size = n })
	}
	for _, n := range beyond(1, api.MaxArea) {
		fails(t, "a bad size", api.ErrWire, func(l *api.Loom) { l.Wires[2].Size = n })
	}
	for _, f := range []api.Formula{{api.Yes}, {api.No}, {api.Same, 0, api.Not, 1}, nots(api.MaxFormula)} {
		fails(t, "a wire with a formula", api.OK, func(l *api.Loom) { l.Wires[2].Form = f })
	}
	for _, f := range []api.Formula{nil, {}, {2}, {-7}, {math.MinInt}, {math.MaxInt}, {api.Not}, {api.And, 0}, {0, 1}, nots(api.MaxFormula + 1)} {
		fails(t, "a wire with a bad formula", api.ErrFormula, func(l *api.Loom) { l.Wires[2].Form = f })
	}
}

// P6.1, with the rule R1: which of several errors comes first.
func TestCheckOrder(t *testing.T) {
	steps := []struct {
		e      api.Errno
		change change
	}{
		{api.ErrOption, func(l *api.Loom) { l.Model.Options[0] = "" }},
		{api.ErrMany, func(l *api.Loom) { l.Plugs = append(l.Plugs, make([]api.Plug, 30)...) }},
		{api.ErrSpot, func(l *api.Loom) { l.Spots[3].Y = 100001 }},
		{api.ErrTree, func(l *api.Loom) { l.Runs[0].Room = -1 }},
		{api.ErrPlug, func(l *api.Loom) { l.Plugs[2].Cavities = 0 }},
		{api.ErrWire, func(l *api.Loom) { l.Wires[1].Size = 0 }},
		{api.ErrFormula, func(l *api.Loom) { l.Wires[1].Form = nil }},
	}
	for i, step := range steps {
		var changes []change
		for _, x := range steps[i:] {
			changes = append(changes, x.change)
		}
		fails(t, "several errors", step.e, changes...)
		slices.Reverse(changes)
		fails(t, "several errors", step.e, changes...)
	}
	form := func(wire int) change { return func(l *api.Loom) { l.Wires[wire].Form = nil } }
	size := func(wire int) change { return func(l *api.Loom) { l.Wires[wire].Size = 0 } }
	fails(t, "a formula before a wire", api.ErrFormula, form(0), size(1))
	fails(t, "a wire before a formula", api.ErrWire, size(0), form(1))
	fails(t, "a tree with a bad spot", api.ErrSpot, func(l *api.Loom) { l.Spots, l.Runs = []api.Spot{{X: 100001}}, nil })
	fails(t, "a spot that runs do not reach, and a bad plug", api.ErrTree, func(l *api.Loom) { l.Runs[2], l.Plugs[0].Name = l.Runs[1], "" })
}
