package place

import (
	"iter"
	"math/bits"

	"ignition/api"
)

// ends returns the beginnings with which the branches of a search end, in ascending order, each with whether it is a plan at which the search did not stop.
// The search begins without tasks, and goes on from each beginning at which it does not stop with each host for the next task.
func (c *chart) ends(stop func(b beginning) bool) iter.Seq2[beginning, bool] {
	return func(yield func(b beginning, whole bool) bool) {
		var search func(b beginning) bool
		search = func(b beginning) bool {
			if stop(b) {
				return yield(b, false)
			}
			if b.placed == len(c.Tasks) {
				return yield(b, true)
			}
			for host := range c.Hosts {
				if !search(c.put(b, host)) {
					return false
				}
			}
			return true
		}
		search(c.begin(nil))
	}
}

// anyPlan reports whether a plan is allowed.
func anyPlan(p api.Problem) bool {
	for _, whole := range newChart(bondsFirst(p)).ends(beginning.isDead) {
		if whole {
			return true
		}
	}
	return false
}

// count returns how many plans are allowed.
func count(p api.Problem) int {
	c := newChart(bondsFirst(p))
	n := 0
	stop := func(b beginning) bool { return b.isDead() || c.isFree(b) }
	for b := range c.ends(stop) {
		if !b.isDead() {
			n += c.ways(b)
		}
	}
	return n
}

// isFree reports whether each task that is left may go to any of its hosts, wherever the others go.
func (c *chart) isFree(b beginning) bool {
	if b.placed < c.alone {
		return false
	}
	for host := range c.Hosts {
		l := b.loads
		for t := b.placed; t < len(c.Tasks); t++ {
			if !b.may[t].has(host) {
				continue
			}
			if !l.take(c.Tasks[t], host, c.Hosts[host]) {
				return false
			}
			l = l.with(c.Tasks[t], host)
		}
	}
	return true
}

// ways returns how many plans begin so if the tasks that are left are free.
func (c *chart) ways(b beginning) int {
	n := 1
	for t := b.placed; t < len(c.Tasks); t++ {
		n *= bits.OnesCount8(uint8(b.may[t]))
	}
	return n
}
