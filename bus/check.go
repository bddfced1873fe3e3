package bus

import (
	"slices"

	"ignition/api"
)

// isOf reports whether a number is that of one of n things.
func isOf(number, n int) bool { return number >= 0 && number < n }

// isFrom reports whether a number is from low to high.
func isFrom(low, number, high int) bool { return low <= number && number <= high }

// areWithin reports whether all numbers are from 0 to a limit.
func areWithin(limit int, numbers []int) bool {
	return !slices.ContainsFunc(numbers, func(n int) bool { return !isFrom(0, n, limit) })
}

// areFrames reports whether frames are valid.
func areFrames(l []api.Frame) bool {
	if len(l) > api.MaxFrames {
		return false
	}
	for i, f := range l {
		same := func(other api.Frame) bool { return other.Rank == f.Rank }
		if !isFrame(f) || slices.ContainsFunc(l[:i], same) {
			return false
		}
	}
	return true
}

// isFrame reports whether the numbers of a frame are within their limits.
func isFrame(f api.Frame) bool {
	return isFrom(1, f.Size, api.MaxSend) && isFrom(1, f.Every, api.MaxPeriod) && isFrom(1, f.Due, api.MaxPeriod) &&
		isFrom(0, f.Jitter, api.MaxPeriod) && isFrom(0, f.Rank, api.MaxRank)
}

// checkReleases returns the first error of frames and their releases.
func checkReleases(l []api.Frame, releases []api.Release) api.Errno {
	if e := Check(l); e != api.OK {
		return e
	}
	if len(releases) > api.MaxReleases {
		return api.ErrMany
	}
	for _, r := range releases {
		if !isOf(r.Frame, len(l)) || !isFrom(0, r.At, api.MaxTime) {
			return api.ErrArg
		}
	}
	return api.OK
}

// isPower reports whether a number is a power of two from 1 to a limit.
func isPower(n, limit int) bool { return isFrom(1, n, limit) && n&(n-1) == 0 }

// isSlotted reports whether a slotted bus is valid.
func isSlotted(s api.Slotted) bool {
	if !isFrom(1, s.Slots, api.MaxSlots) || !isPower(s.Cycles, api.MaxCycles) || len(s.Messages) > api.MaxMessages {
		return false
	}
	return !slices.ContainsFunc(s.Messages, func(m api.Message) bool {
		return !isFrom(0, m.Sender, 1000) || !isPower(m.Every, s.Cycles)
	})
}

// areSlots reports whether there is a slot, and a cycle to begin with, for each message of a valid slotted bus.
func areSlots(s api.Slotted, l []api.Slot) bool {
	if len(l) != len(s.Messages) {
		return false
	}
	for i, m := range s.Messages {
		if !isOf(l[i].Slot, s.Slots) || !isOf(l[i].Base, m.Every) {
			return false
		}
	}
	return true
}

// isNet reports whether a net is valid.
func isNet(n api.Net) bool {
	if len(n.Gates) > api.MaxGates || len(n.Flows) > api.MaxFlows {
		return false
	}
	for _, g := range n.Gates {
		if !isFrom(1, g.Rate, api.MaxRate) || !isFrom(1, g.Delay, api.MaxDelay) {
			return false
		}
	}
	return !slices.ContainsFunc(n.Flows, func(f api.Flow) bool { return !isLimited(f) || !isPath(n, f.Path) })
}

// isLimited reports whether Burst and Rate of a flow are valid.
func isLimited(f api.Flow) bool {
	return isFrom(1, f.Burst, api.MaxBurst) && isFrom(0, f.Rate, api.MaxRate)
}

// isPath reports whether a path is one of a net.
func isPath(n api.Net, path []int) bool {
	if !isFrom(1, len(path), api.MaxPath) {
		return false
	}
	for i, gate := range path {
		if !isOf(gate, len(n.Gates)) || slices.Contains(path[:i], gate) {
			return false
		}
	}
	return true
}

// isTraffic reports whether traffic is valid.
func isTraffic(l []int) bool { return len(l) <= api.MaxList && areWithin(api.MaxSend, l) }

// areTraffic reports whether there is valid traffic for each flow.
func areTraffic(n api.Net, traffic [][]int) bool {
	return len(traffic) == len(n.Flows) && !slices.ContainsFunc(traffic, func(l []int) bool { return !isTraffic(l) })
}
