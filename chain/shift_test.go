package chain_test

import (
	"math"
	"math/rand"
	"slices"
	"testing"

	"ignition/api"
	"ignition/chain"
)

// bestShift is the plain definition of what Shift returns.
func bestShift(l []api.Step, step int) (offset, age int) {
	age = math.MaxInt
	for o := range l[step].Every {
		if n := oldest(shifted(l, step, o)).Age; n < age {
			offset, age = o, n
		}
	}
	return offset, age
}

// P5.3: Shift of the example, of one step, and of steps whose best offset can be seen.
func TestShift(t *testing.T) {
	for _, x := range []struct {
		l                 []api.Step
		step, offset, age int
	}{
		{steps(), 2, 2, 17},
		{steps()[:1], 0, 0, 3},
		{[]api.Step{timed(10, 3, 9)}, 0, 0, 3},
		{[]api.Step{timed(1, 1, 0)}, 0, 0, 1},
		{[]api.Step{timed(10, 3, 2), timed(10, 1, 4)}, 1, 5, 4},
		{[]api.Step{timed(10, 3, 2), timed(10, 1, 4)}, 0, 1, 4},
		{[]api.Step{timed(10, 3, 8), timed(10, 1, 0)}, 1, 1, 4},
		{[]api.Step{timed(10, 3, 8), timed(10, 1, 0)}, 0, 7, 4},
		{[]api.Step{timed(10, 3, 9), timed(10, 1, 0), timed(10, 9, 9)}, 1, 2, 19},
		{[]api.Step{timed(10, 3, 0), timed(1, 1, 0)}, 1, 0, 13},
	} {
		want(t, "Shift", shiftOf(x.l, x.step), results(x.offset, x.age, api.OK))
	}
	randomly(t, 300, func(r *rand.Rand, l []api.Step) {
		for step := range l {
			offset, age := bestShift(l, step)
			want(t, "Shift", shiftOf(l, step), results(offset, age, api.OK))
		}
	})
}

// P5.3: Shift of no step of the chain. (The errors of the chain, which come first, have their own test.)
func TestShiftErrors(t *testing.T) {
	for _, step := range []int{3, -1, 4, math.MinInt, math.MaxInt} {
		want(t, "Shift of no step", shiftOf(steps(), step), results(0, 0, api.ErrArg))
	}
	want(t, "Shift of the last step", shiftOf(steps(), 2)[2], api.OK)
}

// P5.9: the offset that Shift returns is the best one.
func TestShiftIsBest(t *testing.T) {
	randomly(t, 1000, func(r *rand.Rand, l []api.Step) {
		step := r.Intn(len(l))
		offset, age, e := chain.Shift(l, step)
		want(t, "the error", e, api.OK)
		for o := range l[step].Every {
			x, e := chain.Age(shifted(l, step, o))
			if e != api.OK || x.Age < age || (x.Age == age) && o < offset || o == offset && x.Age != age {
				t.Errorf("Shift of %d is %d, %d; with %d the age is %d", step, offset, age, o, x.Age)
			}
		}
	})
}

// P5.9: with all offsets greater by the same number the greatest age stays.
func TestAllShifted(t *testing.T) {
	randomly(t, 1000, func(r *rand.Rand, l []api.Step) {
		more := r.Intn(100)
		later := slices.Clone(l)
		for i, s := range l {
			later[i].Offset = (s.Offset + more) % s.Every
		}
		age, reaction, least, lost, doubled := numbersOf(t, l)
		a, b, c, d, e := numbersOf(t, later)
		want(t, "the numbers of the chain that is later", results(a, b, c, d, e), results(age, reaction, least, lost, doubled))
	})
}

// within is the plain definition of what Within returns.
func within(l []api.Step, age, reaction int) bool {
	a, b := bounds(l)
	if !slices.ContainsFunc(l, func(s api.Step) bool { return !s.Timed }) && round(l) <= api.MaxRound {
		a = oldest(l).Age
		b = a + l[len(l)-1].Every - 1
	}
	return a <= age && b <= reaction
}

// P5.3: Within of chains of all sorts, with limits that are just kept and just exceeded.
func TestWithin(t *testing.T) {
	for _, x := range []struct {
		what          string
		l             []api.Step
		age, reaction int
	}{
		{"the example", steps(), 20, 24},
		{"one step", steps()[:1], 3, 12},
		{"a loose chain", pair(), 19, 28},
		{"a loose step", []api.Step{loose(5, 9)}, 9, 13},
		{"a mixed chain", mixed(), 40, 44},
		{"a round of one more than MaxRound", long(), 74, 210},
		{"a round of MaxRound", []api.Step{timed(16, 1, 0), timed(625, 1, 0)}, 17, 641},
		{"a greater round", []api.Step{timed(32, 1, 0), timed(625, 1, 0)}, 33, 657},
		{"a round of MaxRound in one step", []api.Step{timed(1, 1, 0), timed(10000, 1, 0)}, 2, 10001},
		{"a step of MaxRound, and one", []api.Step{timed(10000, 1, 0), timed(10000, 1, 9)}, 10, 10009},
		{"a step of MaxRound and one more, twice", []api.Step{timed(10001, 1, 0), timed(10001, 1, 9)}, 10002, 20002},
		{"the greatest steps", slices.Repeat([]api.Step{greatest()}, 10), 1899991, 1999990},
	} {
		for _, y := range []struct {
			age, reaction int
			want          bool
		}{
			{x.age, x.reaction, true},
			{x.age - 1, x.reaction, false},
			{x.age, x.reaction - 1, false},
			{x.age + 1, x.reaction + 1, true},
			{math.MaxInt, x.reaction, true},
			{x.age, math.MaxInt, true},
			{math.MaxInt, math.MaxInt, true},
			{math.MinInt, math.MaxInt, false},
			{math.MaxInt, math.MinInt, false},
			{0, 0, false},
			{-1, -1, false},
		} {
			want(t, "Within of "+x.what, withinOf(x.l, y.age, y.reaction), results(y.want, api.OK))
		}
	}
	randomly(t, 500, func(r *rand.Rand, l []api.Step) {
		if r.Intn(3) == 0 {
			l[r.Intn(len(l))] = loose(3, 4)
		}
		for range 20 {
			age, reaction := r.Intn(100), r.Intn(100)
			want(t, "Within", withinOf(l, age, reaction), results(within(l, age, reaction), api.OK))
		}
	})
}

// P5.3: Within of what is no chain.
func TestWithinErrors(t *testing.T) {
	for _, l := range [][]api.Step{nil, {loose(0, 1)}, append(steps(), timed(3, 4, 0)), slices.Repeat(pair(), 6)} {
		want(t, "Within of no chain", withinOf(l, math.MaxInt, math.MaxInt), results(false, api.ErrStep))
	}
}
