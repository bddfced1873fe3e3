package chain_test

import (
	"math/rand"
	"slices"
	"testing"

	"ignition/api"
	"ignition/bus"
	"ignition/chain"
)

// P5.1, P5.2, P5.3: chains with a round of MaxRound, step by step.
func TestGreatestRounds(t *testing.T) {
	r := rand.New(rand.NewSource(11))
	table := []int{1, 2, 4, 5, 8, 10, 16, 25, 40, 50, 80, 125}
	for range 6 {
		l := []api.Step{timed(16, 1+r.Intn(16), r.Intn(16)), timed(625, 1+r.Intn(625), r.Intn(625))}
		for range 8 {
			every := table[r.Intn(len(table))]
			l = append(l, timed(every, 1+r.Intn(every), r.Intn(every)))
		}
		r.Shuffle(len(l), func(i, j int) { l[i], l[j] = l[j], l[i] })
		x := oldest(l)
		want(t, "Round", roundOf(l), results(api.MaxRound, api.OK))
		want(t, "Age", ageOf(l), results(x, api.OK))
		want(t, "Least", leastOf(l), results(youngest(l), api.OK))
		want(t, "Reaction", reactionOf(l), results(x.Age+l[9].Every-1, api.OK))
		want(t, "Lost", lostOf(l), results(lost(l), api.OK))
		want(t, "Doubled", doubledOf(l), results(doubled(l), api.OK))
		want(t, "Within", withinOf(l, x.Age, x.Age+l[9].Every-1), results(true, api.OK))
		want(t, "Within of less", withinOf(l, x.Age-1, api.MaxRound*10), results(false, api.OK))
	}
}

// P5.2: the reaction of a chain with a round of MaxRound, time by time.
func TestGreatestReaction(t *testing.T) {
	l := []api.Step{timed(16, 7, 3), timed(625, 600, 99), timed(50, 20, 10)}
	want(t, "Reaction", reactionOf(l), results(reaction(l), api.OK))
}

// P5.3, P5.9: Shift of steps with a great many offsets, between steps with a great many runs.
func TestGreatestShift(t *testing.T) {
	fast := slices.Repeat([]api.Step{timed(1, 1, 0)}, 4)
	slow := []api.Step{timed(10000, 10000, 5000)}
	l := slices.Concat(fast, slow, fast, []api.Step{timed(10000, 2, 7)})
	for _, step := range []int{0, 4, 9} {
		offset, age, e := chain.Shift(l, step)
		want(t, "the error", e, api.OK)
		for o := 0; o < l[step].Every; o += 1 + l[step].Every/700 {
			for _, o := range []int{o, max(offset-o, 0)} {
				x, _ := chain.Age(shifted(l, step, o))
				if x.Age < age || x.Age == age && o < offset || o == offset && x.Age != age {
					t.Fatalf("Shift of %d is %d, %d; with %d the age is %d", step, offset, age, o, x.Age)
				}
			}
		}
	}
	want(t, "Shift of the slow step", shiftOf(l, 4), results(3, 10010, api.OK))
	want(t, "Shift of the last step", shiftOf(l, 9), results(5004, 10010, api.OK))
	want(t, "Shift of a slow first step", shiftOf(slices.Concat(slow, fast), 0), results(0, 20003, api.OK))
}

// P5.1: FromFrames of frames that keep the bus busy for long.
func TestBusyFrames(t *testing.T) {
	l := []api.Frame{{Size: 1, Every: 2, Due: 1}, {Size: 998, Every: 2001, Due: 1, Rank: 1}, {Size: 1, Every: 100000, Due: 1, Rank: 2}}
	for range 17 {
		l = append(l, api.Frame{Size: 1, Every: 100000, Due: 1, Rank: len(l)})
	}
	var which []int
	var should []api.Step
	for frame := range api.MaxSteps {
		n, e := bus.Response(l, 2*frame)
		want(t, "the error of Response", e, api.OK)
		which, should = append(which, 2*frame), append(should, loose(l[2*frame].Every, n))
	}
	want(t, "FromFrames", fromFramesOf(l, which...), results(should, api.OK))
	full := []api.Frame{{Size: 1, Every: 1, Due: 1}, {Size: 1, Every: 100000, Due: 1, Rank: 1}}
	want(t, "FromFrames of what a full bus sends", fromFramesOf(full, slices.Repeat([]int{0}, 10)...), results(slices.Repeat([]api.Step{least()}, 10), api.OK))
	want(t, "FromFrames of what a full bus never sends", fromFramesOf(full, slices.Repeat([]int{0, 1}, 5)...), results([]api.Step{}, api.ErrOver))
}

// P5.3: the greatest play.
func TestGreatestPlay(t *testing.T) {
	l := slices.Repeat([]api.Step{greatest()}, api.MaxSteps)
	starts, ends := every(500, 100000, 0), every(500, 100000, 100000)
	var should []int
	for k := range 500 {
		if k < 9 {
			should = append(should, -1)
		} else {
			should = append(should, 1000000)
		}
	}
	want(t, "Play", playOf(l, slices.Repeat([][]int{starts}, 10), slices.Repeat([][]int{ends}, 10)), results(should, api.OK))
	r := rand.New(rand.NewSource(12))
	l = randomLoose(r, api.MaxSteps)
	a, b := randomPlay(r, l, func(int) int { return api.MaxReleases })
	want(t, "Play", playOf(l, a, b), results(ages(l, a, b), api.OK))
}
