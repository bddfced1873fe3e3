package bus

import "ignition/api"

// up returns a quotient rounded up, for numbers above 0.
func up(a, b int) int { return (a + b - 1) / b }

// least returns the least number from begin on that a function does not change, and whether it is at most MaxTime.
// The function gives no less for a greater number, and no less than begin for begin: so no such number is passed over.
func least(begin int, change func(int) int) (int, bool) {
	for n := begin; n <= api.MaxTime; {
		next := change(n)
		if next == n {
			return n, true
		}
		n = next
	}
	return 0, false
}

// rivals are what a frame has to wait for: the frames above it, and what is left of one below it that is being sent.
type rivals struct {
	above []api.Frame
	rest  int
}

// add adds a frame that is above, or below.
func (r *rivals) add(f api.Frame, above bool) {
	if above {
		r.above = append(r.above, f)
	} else {
		r.rest = max(r.rest, f.Size-1)
	}
}

// rivalsOf returns the rivals of one of the frames, by their ranks.
func rivalsOf(l []api.Frame, f api.Frame) rivals {
	var r rivals
	for _, other := range l {
		if other.Rank != f.Rank {
			r.add(other, other.Rank < f.Rank)
		}
	}
	return r
}

// busy returns for how long the bus can be busy with a frame and what it waits for, and whether this is at most MaxTime.
func (r rivals) busy(f api.Frame) (int, bool) {
	return least(1, func(t int) int {
		sum := r.rest + up(t+f.Jitter, f.Every)*f.Size
		for _, a := range r.above {
			sum += up(t+a.Jitter, a.Every) * a.Size
		}
		return sum
	})
}

// response returns the response of a frame, and whether it has one that is at most limit.
func (r rivals) response(f api.Frame, limit int) (int, bool) {
	t, is := r.busy(f)
	if !is {
		return 0, false
	}
	most, begin := 0, r.rest
	for q := range up(t+f.Jitter, f.Every) {
		w, is := least(begin, func(w int) int {
			sum := r.rest + q*f.Size
			for _, a := range r.above {
				sum += ((w+a.Jitter)/a.Every + 1) * a.Size
			}
			return sum
		})
		most = max(most, w+f.Size+f.Jitter-q*f.Every)
		if !is || most > limit {
			return 0, false
		}
		// The next w is at least Size more than this one: to begin there saves most of the steps.
		begin = w + f.Size
	}
	return most, true
}

// makeLate reports whether rivals can make a frame late.
func (r rivals) makeLate(f api.Frame) bool {
	_, is := r.response(f, f.Due)
	return !is
}

// unranked is the rank of a frame that has none yet.
const unranked = -1

// rank returns ranks with which no frame is late, and whether there are any.
func rank(l []api.Frame) ([]int, bool) {
	ranks := make([]int, len(l))
	for i := range ranks {
		ranks[i] = unranked
	}
	for n := len(l) - 1; n >= 0; n-- {
		i := firstInTime(l, ranks)
		if i < 0 {
			return nil, false
		}
		ranks[i] = n
	}
	return ranks, true
}

// firstInTime returns the first frame without a rank that is not late if all others without one are above it, or -1.
func firstInTime(l []api.Frame, ranks []int) int {
	for i, f := range l {
		if ranks[i] != unranked {
			continue
		}
		var r rivals
		for k, other := range l {
			if k != i {
				r.add(other, ranks[k] == unranked)
			}
		}
		if !r.makeLate(f) {
			return i
		}
	}
	return -1
}
