package loom_test

import (
	"math"
	"math/rand"
	"slices"
	"testing"

	"ignition/api"
)

// P6.2, P6.3: the examples, and wires whose ends are at one spot.
func TestRoutes(t *testing.T) {
	l := example()
	want(t, "Route of x", routeOf(l, 0), results([]int{0, 1, 2}, api.OK))
	want(t, "Route of y", routeOf(l, 1), results([]int{0, 1, 3}, api.OK))
	want(t, "Length of x", lengthOf(l, 0), results(160, api.OK))
	want(t, "Length of z", lengthOf(l, 2), results(210, api.OK))
	want(t, "Distance", distanceOf(l, 2, 3), results(150, api.OK))
	want(t, "Distance from a spot to itself", distanceOf(l, 2, 2), results(0, api.OK))
	l.Wires[0].From, l.Wires[0].To = l.Wires[0].To, l.Wires[0].From
	want(t, "Route back", routeOf(l, 0), results([]int{2, 1, 0}, api.OK))
	l.Wires[0].To = api.Pin{Plug: 1, Cavity: 1}
	want(t, "Route within a plug", routeOf(l, 0), results([]int{2}, api.OK))
	want(t, "Length within a plug", lengthOf(l, 0), results(0, api.OK))
	l.Plugs[2].Spot = 0
	want(t, "Route between plugs at one spot", routeOf(l, 1), results([]int{0}, api.OK))
	want(t, "Length between plugs at one spot", lengthOf(l, 1), results(0, api.OK))
	one := api.Loom{Spots: []api.Spot{{}}, Plugs: []api.Plug{{Name: "a", Cavities: 2}}, Wires: []api.Wire{{Name: "a", To: api.Pin{Cavity: 1}, Size: 1, Form: api.Formula{api.No}}}}
	want(t, "Route with one spot", routeOf(one, 0), results([]int{0}, api.OK))
	want(t, "Distance with one spot", distanceOf(one, 0, 0), results(0, api.OK))
}

// P6.2, P6.3: routes in the longest looms.
func TestLongRoutes(t *testing.T) {
	l := greatest()
	var all []int
	for i := range 30 {
		all = append(all, i)
	}
	want(t, "Route", routeOf(l, 0), results(all, api.OK))
	want(t, "Route of the last wire", routeOf(l, 59), results(all[1:29], api.OK))
	for i := range l.Runs {
		l.Runs[i].Length = api.MaxLength
	}
	want(t, "Distance", distanceOf(l, 39, 0), results(39*api.MaxLength, api.OK))
	want(t, "Length", lengthOf(l, 0), results(29*api.MaxLength, api.OK))
}

// P6.2, P6.3: wires and spots that are not there.
func TestRouteErrors(t *testing.T) {
	for _, n := range []int{-1, 3, math.MinInt, math.MaxInt} {
		want(t, "Route of no wire", routeOf(example(), n), results([]int{}, api.ErrArg))
		want(t, "Length of no wire", lengthOf(example(), n), results(0, api.ErrArg))
	}
	for _, n := range []int{-1, 4, math.MinInt, math.MaxInt} {
		want(t, "Distance from no spot", distanceOf(example(), n, 0), results(0, api.ErrArg))
		want(t, "Distance to no spot", distanceOf(example(), 0, n), results(0, api.ErrArg))
	}
	want(t, "Route without wires", routeOf(line(3), 0), results([]int{}, api.ErrArg))
}

// P6.2, P6.3: random looms.
func TestRoutesRandomly(t *testing.T) {
	randomly(t, func(r *rand.Rand, l api.Loom) {
		far := distances(l)
		for i, w := range l.Wires {
			from, to := ends(l, w)
			want(t, "Route", routeOf(l, i), results(route(l, w), api.OK))
			want(t, "Length", lengthOf(l, i), results(far[from][to], api.OK))
		}
		for a := range far {
			for b := range far {
				want(t, "Distance", distanceOf(l, a, b), results(far[a][b], api.OK))
			}
		}
	})
}

// bent returns a loom of three spots and a wire from the first to the last one.
func bent(spots ...api.Spot) api.Loom {
	return api.Loom{
		Spots: spots,
		Runs:  []api.Run{{A: 0, B: 1, Length: api.MaxLength}, {A: 2, B: 1, Length: api.MaxLength}},
		Plugs: []api.Plug{{Name: "a", Cavities: 1}, {Name: "b", Spot: 2, Cavities: 1}},
		Wires: []api.Wire{{Name: "x", To: api.Pin{Plug: 1}, Size: 1, Form: api.Formula{api.No}}},
	}
}

// P6.8: where a wire bends, for scalar products just below 0, 0, and the greatest ones.
func TestBends(t *testing.T) {
	want(t, "Bends of the example", bendsOf(example()), results([]api.Bend{}, api.OK))
	sharp := results([]api.Bend{{Wire: 0, Spot: 1}}, api.OK)
	straight := results([]api.Bend{}, api.OK)
	for _, x := range []struct {
		spots  []api.Spot
		should []any
	}{
		{[]api.Spot{{}, {X: 1}, {X: 2}}, straight},
		{[]api.Spot{{}, {X: 1}, {X: 1, Z: 5}}, straight},
		{[]api.Spot{{}, {X: 1}, {X: 0}}, sharp},
		{[]api.Spot{{}, {X: 1, Y: 1, Z: 1}, {X: 2, Y: 1, Z: 0}}, straight},
		{[]api.Spot{{}, {X: 1, Y: 1, Z: 1}, {X: 2, Y: 1, Z: -1}}, sharp},
		{[]api.Spot{{}, {Y: 3}, {Y: 2, X: 1000, Z: 1000}}, sharp},
		{[]api.Spot{{}, {}, {X: -1}}, straight},
		{[]api.Spot{{X: 4}, {}, {}}, straight},
		{[]api.Spot{{X: -100000, Y: -100000, Z: -100000}, {X: 100000, Y: 100000, Z: 100000}, {X: -100000, Y: -100000, Z: -100000}}, sharp},
		{[]api.Spot{{X: -100000, Y: -100000, Z: -100000}, {}, {X: 100000, Y: 100000, Z: 100000}}, straight},
		{[]api.Spot{{X: -100000, Y: -100000}, {X: 100000, Y: 100000}, {X: 100000, Y: 100000, Z: -100000}}, straight},
	} {
		want(t, "Bends", bendsOf(bent(x.spots...)), x.should)
	}
}

// P6.8: several bends come wire by wire, in the order of each route; the ends of a route do not count.
func TestManyBends(t *testing.T) {
	l := line(6)
	for i, x := range []int{0, 5, 1, 6, 2, 7} {
		l.Spots[i].X = x
	}
	l.Plugs = []api.Plug{{Name: "a", Spot: 4, Cavities: 3}, {Name: "b", Spot: 0, Cavities: 3}, {Name: "c", Spot: 5, Cavities: 3}}
	pin := func(plug, cavity int) api.Pin { return api.Pin{Plug: plug, Cavity: cavity} }
	for i, ends := range [][2]api.Pin{{pin(0, 0), pin(1, 0)}, {pin(0, 1), pin(2, 0)}, {pin(0, 0), pin(0, 1)}, {pin(1, 1), pin(2, 1)}} {
		l.Wires = append(l.Wires, api.Wire{Name: named(i), From: ends[0], To: ends[1], Size: 1, Form: api.Formula{api.Yes}})
	}
	want(t, "Bends", bendsOf(l), results([]api.Bend{{Wire: 0, Spot: 3}, {Wire: 0, Spot: 2}, {Wire: 0, Spot: 1}, {Wire: 3, Spot: 1}, {Wire: 3, Spot: 2}, {Wire: 3, Spot: 3}, {Wire: 3, Spot: 4}}, api.OK))
}

// turn is the scalar product of the vectors from a to b and from b to c.
func turn(a, b, c api.Spot) int {
	return (b.X-a.X)*(c.X-b.X) + (b.Y-a.Y)*(c.Y-b.Y) + (b.Z-a.Z)*(c.Z-b.Z)
}

// P6.8: random looms.
func TestBendsRandomly(t *testing.T) {
	randomly(t, func(r *rand.Rand, l api.Loom) {
		var bends []api.Bend
		for i, w := range l.Wires {
			spots := route(l, w)
			for k := 2; k < len(spots); k++ {
				if turn(l.Spots[spots[k-2]], l.Spots[spots[k-1]], l.Spots[spots[k]]) < 0 {
					bends = append(bends, api.Bend{Wire: i, Spot: spots[k-1]})
				}
			}
		}
		want(t, "Bends", bendsOf(l), results(bends, api.OK))
	})
}

// P6.9, P6.10: the examples, and spots that are given several times.
func TestSpliceJoined(t *testing.T) {
	l := example()
	want(t, "Splice", spliceOf(l, 0, 2, 3), results(1, 260, api.OK))
	want(t, "Splice in another order", spliceOf(l, 3, 0, 2), results(1, 260, api.OK))
	want(t, "Joined", joinedOf(l, 0, 2, 3), results(260, api.OK))
	want(t, "Splice of one", spliceOf(l, 3), results(3, 0, api.OK))
	want(t, "Joined of one", joinedOf(l, 3), results(0, api.OK))
	want(t, "Splice of two, all spots between which are as good", spliceOf(l, 3, 2), results(1, 150, api.OK))
	want(t, "Splice of a spot twice", spliceOf(l, 2, 2), results(2, 0, api.OK))
	want(t, "Joined of a spot twice", joinedOf(l, 2, 2), results(0, api.OK))
	want(t, "Splice of a spot that counts twice", spliceOf(l, 3, 0, 3), results(3, 210, api.OK))
	want(t, "Joined of a spot that is there twice", joinedOf(l, 3, 0, 3), results(210, api.OK))
	want(t, "Splice of two spots, each twice", spliceOf(l, 3, 0, 3, 0), results(0, 420, api.OK))
	one := api.Loom{Spots: []api.Spot{{}}}
	want(t, "Splice with one spot", spliceOf(one, slices.Repeat([]int{0}, 40)...), results(0, 0, api.OK))
	want(t, "Joined with one spot", joinedOf(one, 0), results(0, api.OK))
}

// P6.9, P6.10: the least and the most spots.
func TestSpliceJoinedLimits(t *testing.T) {
	l := line(api.MaxSpots)
	for i := range l.Runs {
		l.Runs[i].Length = api.MaxLength
	}
	far := slices.Repeat([]int{39, 0}, 20)
	want(t, "Splice of 40", spliceOf(l, far...), results(0, 20*39*api.MaxLength, api.OK))
	want(t, "Joined of 40", joinedOf(l, far...), results(39*api.MaxLength, api.OK))
	for _, spots := range [][]int{nil, {}, {-1}, {0, 40}, {40}, {0, 1, math.MinInt}, {math.MaxInt, 0}, append(far, 0), make([]int, 100000)} {
		want(t, "Splice", spliceOf(l, spots...), results(0, 0, api.ErrArg))
		want(t, "Joined", joinedOf(l, spots...), results(0, api.ErrArg))
	}
}

// side is the plain definition of what can be reached from a spot without a run.
func side(l api.Loom, run, from int) []int {
	l.Runs = slices.Delete(slices.Clone(l.Runs), run, run+1)
	var spots []int
	for spot, far := range distances(l)[from] {
		if far < 1<<40 {
			spots = append(spots, spot)
		}
	}
	return spots
}

// joined is the plain definition of Joined.
func joined(l api.Loom, spots []int) int {
	sum := 0
	for run, r := range l.Runs {
		onSide := side(l, run, r.A)
		on := func(spot int) bool { return slices.Contains(onSide, spot) }
		off := func(spot int) bool { return !on(spot) }
		if slices.ContainsFunc(spots, on) && slices.ContainsFunc(spots, off) {
			sum += r.Length
		}
	}
	return sum
}

// P6.9, P6.10: random looms.
func TestSpliceJoinedRandomly(t *testing.T) {
	randomly(t, func(r *rand.Rand, l api.Loom) {
		spots := randomSpots(r, l)
		var sums []int
		for _, row := range distances(l) {
			sum := 0
			for _, spot := range spots {
				sum += row[spot]
			}
			sums = append(sums, sum)
		}
		least := slices.Min(sums)
		want(t, "Splice", spliceOf(l, spots...), results(slices.Index(sums, least), least, api.OK))
		want(t, "Joined", joinedOf(l, spots...), results(joined(l, spots), api.OK))
	})
}

// P6.13: a plug at another spot, or where it is; two plugs at one spot.
func TestMove(t *testing.T) {
	should := example()
	should.Plugs[1].Spot = 0
	want(t, "Move", moveOf(example(), 1, 0), results(should, api.OK))
	want(t, "Move to where it is", moveOf(example(), 1, 2), results(example(), api.OK))
	should.Plugs[2].Spot = 0
	moved, _ := moveOf(example(), 1, 0)[0].(api.Loom)
	want(t, "Move of another plug to the same spot", moveOf(moved, 2, 0), results(should, api.OK))
	for _, n := range []int{-1, 3, math.MinInt, math.MaxInt} {
		want(t, "Move of no plug", moveOf(example(), n, 0), results(api.Loom{}, api.ErrArg))
	}
	for _, n := range []int{-1, 4, math.MinInt, math.MaxInt} {
		want(t, "Move to no spot", moveOf(example(), 0, n), results(api.Loom{}, api.ErrArg))
	}
	want(t, "Move without plugs", moveOf(line(2), 0, 0), results(api.Loom{}, api.ErrArg))
}
