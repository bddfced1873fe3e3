package loom

import "ignition/api"

// tree is a loom with the distances of its spots.
type tree struct {
	api.Loom
	far map[[2]int]int
}

// open returns the tree of a loom, or the loom's first error, and behind this ErrArg unless the other arguments are right.
func open(l api.Loom, right bool) (tree, api.Errno) {
	if e := Check(l); e != api.OK {
		return tree{}, e
	}
	if !right {
		return tree{}, api.ErrArg
	}
	t := tree{Loom: l, far: map[[2]int]int{}}
	for spot := range l.Spots {
		t.measure(spot)
	}
	return t, api.OK
}

// measure finds the distances from a spot to all that can be reached from it.
// It turns back where it has been, so that it ends also if the runs form no tree.
func (t tree) measure(from int) {
	var walk func(at, far int)
	walk = func(at, far int) {
		way := [2]int{from, at}
		if _, known := t.far[way]; known {
			return
		}
		t.far[way] = far
		for _, r := range t.Runs {
			if next, is := across(r, at); is {
				walk(next, far+r.Length)
			}
		}
	}
	walk(from, 0)
}

// across returns the other end of a run, if it has an end at a spot.
func across(r api.Run, spot int) (other int, is bool) {
	switch spot {
	case r.A:
		return r.B, true
	case r.B:
		return r.A, true
	}
	return 0, false
}

// ends returns the spots between which a wire leads.
func (t tree) ends(w api.Wire) (from, to int) {
	return t.Plugs[w.From.Plug].Spot, t.Plugs[w.To.Plug].Spot
}

// route returns the spots of the way from one spot to another one, with both.
func (t tree) route(from, to int) []int {
	var spots []int
	var walk func(at int)
	walk = func(at int) {
		spots = append(spots, at)
		for _, r := range t.Runs {
			if next, is := across(r, at); is && t.far[[2]int{next, to}] < t.far[[2]int{at, to}] {
				walk(next)
			}
		}
	}
	walk(from)
	return spots
}

// length returns the length of a wire.
func (t tree) length(w api.Wire) int {
	from, to := t.ends(w)
	return t.far[[2]int{from, to}]
}

// divides reports whether a run stands between some of the spots and others of them.
func (t tree) divides(r api.Run, spots ...int) bool {
	onA := func(spot int) bool { return t.far[[2]int{spot, r.A}] < t.far[[2]int{spot, r.B}] }
	for _, spot := range spots {
		if onA(spot) != onA(spots[0]) {
			return true
		}
	}
	return false
}

// through returns the wires whose routes use a run.
func (t tree) through(run int) []int {
	var wires []int
	for i, w := range t.Wires {
		from, to := t.ends(w)
		if t.divides(t.Runs[run], from, to) {
			wires = append(wires, i)
		}
	}
	return wires
}

// sharp returns the spots of the route of a wire at which it bends sharply.
func (t tree) sharp(w api.Wire) []int {
	var spots []int
	route := t.route(t.ends(w))
	for i := 1; i < len(route)-1; i++ {
		before, at, next := t.Spots[route[i-1]], t.Spots[route[i]], t.Spots[route[i+1]]
		if product(leads(before, at), leads(at, next)) < 0 {
			spots = append(spots, route[i])
		}
	}
	return spots
}

// leads returns the vector that leads from a spot to another one.
func leads(from, to api.Spot) api.Spot {
	return api.Spot{X: to.X - from.X, Y: to.Y - from.Y, Z: to.Z - from.Z}
}

// product returns the scalar product of two vectors.
func product(a, b api.Spot) int { return a.X*b.X + a.Y*b.Y + a.Z*b.Z }

// splice returns the first spot whose distances to all of the given spots have the least sum, and this sum.
func (t tree) splice(spots []int) (best, least int) {
	for spot := range t.Spots {
		sum := 0
		for _, other := range spots {
			sum += t.far[[2]int{spot, other}]
		}
		if spot == 0 || sum < least {
			best, least = spot, sum
		}
	}
	return best, least
}
