package chain

import (
	"slices"

	"ignition/api"
)

// timed is a timed chain, and its round, which is at most MaxRound.
type timed struct {
	steps []api.Step
	round int
}

// newTimed returns a timed chain, or the first error of one.
func newTimed(l []api.Step) (timed, api.Errno) {
	if e := Check(l); e != api.OK {
		return timed{}, e
	}
	if slices.ContainsFunc(l, isLoose) {
		return timed{}, api.ErrTimed
	}
	round, is := roundOf(l)
	if !is {
		return timed{}, api.ErrRound
	}
	return timed{steps: l, round: round}, api.OK
}

// roundOf returns the round of some steps, and whether it is at most MaxRound.
func roundOf(l []api.Step) (int, bool) {
	round := 1
	for _, s := range l {
		round *= s.Every / common(round, s.Every)
		// The round of all steps may be too great for a number.
		if round > api.MaxRound {
			return 0, false
		}
	}
	return round, true
}

// common returns the greatest common divisor of two numbers above 0.
func common(a, b int) int {
	for b > 0 {
		a, b = b, a%b
	}
	return a
}

// rest returns what is left if one divides and rounds down: from 0 on, also for a number below 0.
func rest(n, every int) int { return (n%every + every) % every }

// source returns when the run of a step reads whose value one finds at a time: the last one that writes then or before.
func source(s api.Step, t int) int {
	t -= s.Response
	return t - rest(t-s.Offset, s.Every)
}

// soonest returns the first time, at t or later, at which a step reads.
func soonest(s api.Step, t int) int { return t + rest(s.Offset-t, s.Every) }

// last returns the last step.
func (c timed) last() api.Step { return c.steps[len(c.steps)-1] }

// trace returns how a value came to the run of the last step that reads at a time.
func (c timed) trace(read int) Trace {
	reads := make([]int, len(c.steps))
	written := read + c.last().Response
	for i := len(reads) - 1; i > 0; i-- {
		reads[i] = read
		read = source(c.steps[i-1], read)
	}
	reads[0] = read
	return Trace{Reads: reads, Age: written - read}
}

// runs yields the traces of the runs of the last step that read in the times from 0 to the round less 1.
func (c timed) runs(yield func(x Trace) bool) {
	for read := c.last().Offset; read < c.round; read += c.last().Every {
		if !yield(c.trace(read)) {
			return
		}
	}
}

// pairs yields the trace of each of these runs behind that of the run before it.
func (c timed) pairs(yield func(before, x Trace) bool) {
	before := c.trace(c.last().Offset - c.last().Every)
	for x := range c.runs {
		if !yield(before, x) {
			return
		}
		before = x
	}
}

// oldest returns the trace of the first run that has the greatest age.
func (c timed) oldest() Trace {
	var oldest Trace
	for x := range c.runs {
		if x.Age > oldest.Age {
			oldest = x
		}
	}
	return oldest
}

// least returns the least age.
func (c timed) least() int {
	least := c.oldest().Age
	for x := range c.runs {
		least = min(least, x.Age)
	}
	return least
}

// reaction returns the greatest reaction: one waits longest for a change that comes right after a read of the first step,
// until a run of the last step depends on a later one.
func (c timed) reaction() int {
	most := 0
	for before, x := range c.pairs {
		if before.Reads[0] < x.Reads[0] {
			most = max(most, x.Reads[0]+x.Age-(before.Reads[0]+1))
		}
	}
	return most
}

// lost returns how many runs of the first step in a round are not used.
func (c timed) lost() int {
	used := map[int]bool{}
	for x := range c.runs {
		used[rest(x.Reads[0], c.round)] = true
	}
	return c.round/c.steps[0].Every - len(used)
}

// doubled returns how many runs of the last step in a round depend on what the run before depends on.
func (c timed) doubled() int {
	n := 0
	for before, x := range c.pairs {
		if before.Reads[0] == x.Reads[0] {
			n++
		}
	}
	return n
}
