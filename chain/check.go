package chain

import (
	"slices"

	"ignition/api"
)

// isOf reports whether a number is that of one of n things.
func isOf(number, n int) bool { return number >= 0 && number < n }

// isFrom reports whether a number is from low to high.
func isFrom(low, number, high int) bool { return low <= number && number <= high }

// isChain reports whether a chain is valid.
func isChain(l []api.Step) bool {
	return isFrom(1, len(l), api.MaxSteps) && !slices.ContainsFunc(l, func(s api.Step) bool { return !isStep(s) })
}

// isStep reports whether a step is one of a valid chain.
func isStep(s api.Step) bool {
	if !isFrom(1, s.Every, api.MaxPeriod) || !isFrom(1, s.Response, api.MaxPeriod) {
		return false
	}
	if !s.Timed {
		return s.Offset == 0
	}
	return isOf(s.Offset, s.Every) && s.Response <= s.Every
}

// isTimed reports whether a step is timed.
func isTimed(s api.Step) bool { return s.Timed }

// isLoose reports whether a step is loose.
func isLoose(s api.Step) bool { return !s.Timed }

// areNumbers reports whether a list has as many elements as a chain may have, each of them the number of one of n things.
func areNumbers(l []int, n int) bool {
	return isFrom(1, len(l), api.MaxSteps) && !slices.ContainsFunc(l, func(i int) bool { return !isOf(i, n) })
}

// checkPlay returns the first error of a chain and its play.
func checkPlay(l []api.Step, starts, ends [][]int) api.Errno {
	if e := Check(l); e != api.OK {
		return e
	}
	if slices.ContainsFunc(l, isTimed) {
		return api.ErrTimed
	}
	same := func(a, b []int) bool { return len(a) == len(b) }
	if len(starts) != len(l) || !slices.EqualFunc(starts, ends, same) {
		return api.ErrArg
	}
	if slices.ContainsFunc(starts, func(runs []int) bool { return len(runs) > api.MaxReleases }) {
		return api.ErrMany
	}
	for i, s := range l {
		if !areRuns(s, starts[i], ends[i]) {
			return api.ErrArg
		}
	}
	return api.OK
}

// areRuns reports whether the runs of a loose step may start and end so.
func areRuns(s api.Step, starts, ends []int) bool {
	start, end := 0, 0
	for k := range starts {
		due := k * s.Every
		if starts[k] < max(due, start) || ends[k] <= starts[k] || !isFrom(end, ends[k], due+s.Response) {
			return false
		}
		start, end = starts[k], ends[k]
	}
	return true
}
