package loom_test

import (
	"fmt"
	"math/rand"
	"slices"
	"testing"

	"ignition/api"
	"ignition/loom"
	"ignition/options"
)

// far returns a Distance.
func far(t *testing.T, l api.Loom, a, b int) int {
	t.Helper()
	n, e := loom.Distance(l, a, b)
	want(t, "the error of Distance", e, api.OK)
	return n
}

// P6.14: distances are those of a metric.
func TestDistancesFollow(t *testing.T) {
	randomly(t, func(r *rand.Rand, l api.Loom) {
		for a := range l.Spots {
			for b := range l.Spots {
				n := far(t, l, a, b)
				want(t, "Distance the other way", far(t, l, b, a), n)
				want(t, "whether Distance is 0", n == 0, a == b)
				c := r.Intn(len(l.Spots))
				if by := far(t, l, a, c) + far(t, l, c, b); n > by {
					t.Errorf("Distance of %d and %d is %d, but %d by way of %d", a, b, n, by, c)
				}
			}
		}
	})
}

// P6.14: a route goes along runs, and is as long as the distance of its ends.
func TestRoutesFollow(t *testing.T) {
	randomly(t, func(r *rand.Rand, l api.Loom) {
		for i, w := range l.Wires {
			spots, _ := loom.Route(l, i)
			from, to := ends(l, w)
			want(t, "the ends of Route", results(spots[0], spots[len(spots)-1]), results(from, to))
			sum := 0
			for k := 1; k < len(spots); k++ {
				run := slices.IndexFunc(l.Runs, func(r api.Run) bool {
					return r.A == spots[k-1] && r.B == spots[k] || r.B == spots[k-1] && r.A == spots[k]
				})
				if run < 0 {
					t.Fatalf("there is no run between neighbours of the route %v", spots)
				}
				sum += l.Runs[run].Length
			}
			want(t, "Length", lengthOf(l, i), results(sum, api.OK))
			want(t, "Distance of the ends", far(t, l, from, to), sum)
		}
	})
}

// P6.15: splices, and what joins two or three spots.
func TestSplicesFollow(t *testing.T) {
	randomly(t, func(r *rand.Rand, l api.Loom) {
		a, b, c := r.Intn(len(l.Spots)), r.Intn(len(l.Spots)), r.Intn(len(l.Spots))
		want(t, "Joined of two", joinedOf(l, a, b), results(far(t, l, a, b), api.OK))
		three, _ := loom.Joined(l, []int{a, b, c})
		want(t, "twice Joined of three", 2*three, far(t, l, a, b)+far(t, l, b, c)+far(t, l, c, a))
		_, total, _ := loom.Splice(l, []int{a, b, c})
		want(t, "Splice of three", total, three)
		spots := randomSpots(r, l)
		_, total, _ = loom.Splice(l, spots)
		for spot := range l.Spots {
			sum := 0
			for _, other := range spots {
				sum += far(t, l, spot, other)
			}
			if sum < total {
				t.Errorf("Splice of %v is %d, but %d at %d", spots, total, sum, spot)
			}
		}
	})
}

// P6.16: fills are at most the worst one, and what overfills a run is tight; copper is what fills the runs.
func TestFillsFollow(t *testing.T) {
	randomly(t, func(r *rand.Rand, l api.Loom) {
		tight, _ := loom.Tight(l)
		for _, v := range variants(len(l.Model.Options)) {
			copper := 0
			_, is, _ := options.Buildable(l.Model, v)
			for run := range l.Runs {
				n, _ := loom.Fill(l, run, v)
				copper += l.Runs[run].Length * n
				most, _, _ := loom.Worst(l, run)
				if is && n > most {
					t.Errorf("Fill of %d in %v is %d, but Worst is %d", run, v, n, most)
				}
				if is && n > l.Runs[run].Room && !slices.Contains(tight, run) {
					t.Errorf("Fill of %d in %v is %d, but Tight is %v", run, v, n, tight)
				}
			}
			want(t, "Copper", copperOf(l, v), results(copper, api.OK))
		}
	})
}

// P6.17: without clashes, no pin has two wires in a buildable variant; with some, one has.
func TestClashesFollow(t *testing.T) {
	randomly(t, func(r *rand.Rand, l api.Loom) {
		twice := false
		for _, v := range built(l) {
			taken := map[api.Pin]bool{}
			for _, w := range l.Wires {
				if holds(w.Form, v) {
					twice = twice || taken[w.From] || taken[w.To]
					taken[w.From], taken[w.To] = true, true
				}
			}
		}
		pairs, _ := loom.Clashes(l)
		want(t, "whether there are Clashes", len(pairs) > 0, twice)
	})
}

// P6.17: plugs that are moved, and moved back.
func TestMovesFollow(t *testing.T) {
	randomly(t, func(r *rand.Rand, l api.Loom) {
		for plug, p := range l.Plugs {
			want(t, "Move to where it is", moveOf(l, plug, p.Spot), results(l, api.OK))
			moved, e := loom.Move(l, plug, r.Intn(len(l.Spots)))
			want(t, "the errors", results(e, loom.Check(moved)), results(api.OK, api.OK))
			want(t, "Move back", moveOf(moved, plug, p.Spot), results(l, api.OK))
			for i, w := range l.Wires {
				if w.From.Plug != plug && w.To.Plug != plug {
					want(t, "Length of another wire", lengthOf(moved, i), lengthOf(l, i))
				}
			}
		}
	})
}

// What layer 1 answers is valid here: formulas that it has read, models that it has checked, variants that it has found.
func TestOptionsFollow(t *testing.T) {
	l := example()
	for _, text := range []string{"tow", "!heat", "(tow = !heat)", "yes", "no", "((tow | heat) & !(tow & heat))"} {
		f, e := options.Parse(l.Model, text)
		want(t, "the error of Parse", e, api.OK)
		l.Wires[0].Form = f
		l.Model.Rules = []api.Formula{f}
		want(t, "Check with "+text, loom.Check(l), api.OK)
	}
	randomly(t, func(r *rand.Rand, l api.Loom) {
		all, e := options.List(l.Model, api.Formula{api.Yes}, api.MaxList)
		want(t, "the error of List", e, api.OK)
		for _, v := range all {
			for run := range l.Runs {
				want(t, "Carried", carriedOf(l, run, v), results(carried(l, run, v), api.OK))
			}
		}
		for run := range l.Runs {
			most, v, e := loom.Worst(l, run)
			if e == api.OK {
				want(t, "the errors of Worst and of layer 1", fmt.Sprint(options.Buildable(l.Model, v)), "-1 true 0")
				want(t, "Fill of what Worst returns", fillOf(l, run, v), results(most, api.OK))
			}
		}
	})
}
