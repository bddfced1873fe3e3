package loom

import (
	"slices"

	"ignition/api"
	"ignition/options"
)

// isOf reports whether a number is that of one of n things.
func isOf(number, n int) bool { return number >= 0 && number < n }

// isFrom reports whether a number is from low to high.
func isFrom(low, number, high int) bool { return low <= number && number <= high }

// firstError returns the error of the first element of a list that has one.
func firstError[T any](l []T, of func(i int, x T) api.Errno) api.Errno {
	for i, x := range l {
		if e := of(i, x); e != api.OK {
			return e
		}
	}
	return api.OK
}

// unless returns an error unless something is right.
func unless(right bool, e api.Errno) api.Errno {
	if right {
		return api.OK
	}
	return e
}

// checkCounts returns ErrMany if a loom has more of something than it may.
func checkCounts(l api.Loom) api.Errno {
	few := len(l.Spots) <= api.MaxSpots && len(l.Runs) <= api.MaxSpots && len(l.Plugs) <= api.MaxPlugs && len(l.Wires) <= api.MaxWires
	return unless(few, api.ErrMany)
}

// checkSpots returns the first error of spots.
func checkSpots(l api.Loom) api.Errno {
	return firstError(l.Spots, func(_ int, s api.Spot) api.Errno {
		far := slices.ContainsFunc([]int{s.X, s.Y, s.Z}, func(n int) bool { return !isFrom(-api.MaxPlace, n, api.MaxPlace) })
		return unless(!far, api.ErrSpot)
	})
}

// checkRuns returns ErrTree unless the runs of a loom with right spots are right, and as many as those of a tree.
func checkRuns(l api.Loom) api.Errno {
	if len(l.Spots) != len(l.Runs)+1 { // without spots they never are
		return api.ErrTree
	}
	return firstError(l.Runs, func(_ int, r api.Run) api.Errno { return unless(isRun(l.Spots, r), api.ErrTree) })
}

// isRun reports whether a run between some of the spots is right.
func isRun(spots []api.Spot, r api.Run) bool {
	if !isOf(r.A, len(spots)) || !isOf(r.B, len(spots)) || r.A == r.B {
		return false
	}
	straight := leads(spots[r.A], spots[r.B])
	return isFrom(1, r.Length, api.MaxLength) && r.Length*r.Length >= product(straight, straight) && isFrom(0, r.Room, api.MaxRoom)
}

// checkTree returns ErrTree unless right runs, as many as those of a tree, lead to all spots.
func checkTree(l api.Loom) api.Errno {
	t := tree{Loom: l, far: map[[2]int]int{}}
	t.measure(0)
	return unless(len(t.far) == len(l.Spots), api.ErrTree)
}

// isName reports whether a plug or a wire may be called so.
func isName(s string) bool {
	if !isFrom(1, len(s), api.MaxName) {
		return false
	}
	for i := range len(s) {
		if s[i] < 'a' || s[i] > 'z' {
			return false
		}
	}
	return true
}

// checkPlugs returns the first error of the plugs of a loom.
func checkPlugs(l api.Loom) api.Errno {
	return firstError(l.Plugs, func(i int, p api.Plug) api.Errno {
		same := func(other api.Plug) bool { return other.Name == p.Name }
		right := isName(p.Name) && !slices.ContainsFunc(l.Plugs[:i], same) && isOf(p.Spot, len(l.Spots)) && isFrom(1, p.Cavities, api.MaxCavities)
		return unless(right, api.ErrPlug)
	})
}

// isPin reports whether a loom has a pin.
func isPin(l api.Loom, p api.Pin) bool {
	return isOf(p.Plug, len(l.Plugs)) && isOf(p.Cavity, l.Plugs[p.Plug].Cavities)
}

// checkWires returns the first error of the wires of a loom whose plugs and model are right.
func checkWires(l api.Loom) api.Errno {
	return firstError(l.Wires, func(i int, w api.Wire) api.Errno {
		same := func(other api.Wire) bool { return other.Name == w.Name }
		if !isName(w.Name) || slices.ContainsFunc(l.Wires[:i], same) || !isPin(l, w.From) || !isPin(l, w.To) || w.From == w.To || !isFrom(1, w.Size, api.MaxArea) {
			return api.ErrWire
		}
		return options.CheckFormula(l.Model, w.Form)
	})
}

// areSpots reports whether some spots may be given to a function.
func areSpots(l api.Loom, spots []int) bool {
	return isFrom(1, len(spots), api.MaxSpots) && !slices.ContainsFunc(spots, func(s int) bool { return !isOf(s, len(l.Spots)) })
}

// isVariant reports whether a variant is as long as Options.
func isVariant(l api.Loom, v []bool) bool { return len(v) == len(l.Model.Options) }
