package chain

import (
	"slices"
	"sort"

	"ignition/api"
	"ignition/bus"
)

// fromFrames returns a loose step for each of some frames, and whether all of them have a response that a step may have.
func fromFrames(frames []api.Frame, which []int) ([]api.Step, bool) {
	var steps []api.Step
	for i, frame := range which {
		// To find a response can take long: that of a frame is found once.
		if before := slices.Index(which[:i], frame); before >= 0 {
			steps = append(steps, steps[before])
			continue
		}
		response, e := bus.Response(frames, frame)
		if e != api.OK || response > api.MaxPeriod {
			return nil, false
		}
		steps = append(steps, api.Step{Every: frames[frame].Every, Response: response})
	}
	return steps, true
}

// bounds returns the bounds of the age and of the reaction of a chain.
func bounds(l []api.Step) (age, reaction int) {
	for _, s := range l {
		reaction += s.Response + s.Every - 1
	}
	return reaction - (l[len(l)-1].Every - 1), reaction
}

// none says that a run depends on no run of the first step. No run starts then.
const none = -1

// play returns the ages of the runs of the last step.
func play(starts, ends [][]int) []int {
	origins := starts[0]
	for i := 1; i < len(starts); i++ {
		origins = handOn(origins, ends[i-1], starts[i])
	}
	last := ends[len(ends)-1]
	ages := make([]int, len(last))
	for k, origin := range origins {
		ages[k] = none
		if origin != none {
			ages[k] = last[k] - origin
		}
	}
	return ages
}

// handOn returns the origins of the runs of a step, that is, when the run of the first step started on which each of them depends,
// by the origins and the ends of the runs of the step before.
func handOn(origins, ends, starts []int) []int {
	var next []int
	for _, start := range starts {
		origin := none
		if written := sort.SearchInts(ends, start+1); written > 0 {
			origin = origins[written-1]
		}
		next = append(next, origin)
	}
	return next
}
