package chain_test

import (
	"math/rand"
	"testing"

	"ignition/api"
	"ignition/chain"
)

// P5.2: the example.
func TestExample(t *testing.T) {
	l := steps()
	want(t, "Age", ageOf(l), results(chain.Trace{Reads: []int{-10, 1, 5}, Age: 20}, api.OK))
	want(t, "Least", leastOf(l), results(10, api.OK))
	want(t, "Reaction", reactionOf(l), results(24, api.OK))
	want(t, "Lost", lostOf(l), results(0, api.OK))
	want(t, "Doubled", doubledOf(l), results(2, api.OK))
}

// P5.2: chains whose ages can be seen at once.
func TestPlainChains(t *testing.T) {
	trace := func(age int, reads ...int) chain.Trace { return chain.Trace{Reads: reads, Age: age} }
	for _, x := range []struct {
		what                           string
		l                              []api.Step
		age                            chain.Trace
		least, reaction, lost, doubled int
	}{
		{"one step", []api.Step{timed(10, 3, 0)}, trace(3, 0), 3, 12, 0, 0},
		{"one step with an offset", []api.Step{timed(10, 3, 9)}, trace(3, 9), 3, 12, 0, 0},
		{"the least step", []api.Step{timed(1, 1, 0)}, trace(1, 0), 1, 1, 0, 0},
		{"two of the least steps", []api.Step{timed(1, 1, 0), timed(1, 1, 0)}, trace(2, -1, 0), 2, 2, 0, 0},
		{"a read when it is written", []api.Step{timed(10, 3, 2), timed(10, 1, 5)}, trace(4, 2, 5), 4, 13, 0, 0},
		{"a read a tick before it is written", []api.Step{timed(10, 3, 2), timed(10, 1, 4)}, trace(13, -8, 4), 13, 22, 0, 0},
		{"a read at 0 of what is written at 0", []api.Step{timed(10, 10, 0), timed(10, 1, 0)}, trace(11, -10, 0), 11, 20, 0, 0},
		{"a slow step behind a fast one", []api.Step{timed(1, 1, 0), timed(4, 1, 0)}, trace(2, -1, 0), 2, 5, 3, 0},
		{"a slow step behind a fast one, later", []api.Step{timed(1, 1, 0), timed(4, 1, 3)}, trace(2, 2, 3), 2, 5, 3, 0},
		{"a fast step behind a slow one", []api.Step{timed(4, 1, 0), timed(1, 1, 0)}, trace(5, -4, 0), 2, 5, 0, 3},
		{"a slow step between fast ones", []api.Step{timed(1, 1, 0), timed(4, 4, 0), timed(1, 1, 0)}, trace(9, -5, -4, 3), 6, 9, 3, 3},
		{"several of the greatest age", []api.Step{timed(2, 1, 0), timed(3, 1, 0), timed(2, 1, 0)}, trace(5, -4, -3, 0), 3, 6, 1, 1},
	} {
		want(t, "Age of "+x.what, ageOf(x.l), results(x.age, api.OK))
		want(t, "Least of "+x.what, leastOf(x.l), results(x.least, api.OK))
		want(t, "Reaction of "+x.what, reactionOf(x.l), results(x.reaction, api.OK))
		want(t, "Lost of "+x.what, lostOf(x.l), results(x.lost, api.OK))
		want(t, "Doubled of "+x.what, doubledOf(x.l), results(x.doubled, api.OK))
	}
}

// P5.2: random chains, step by step.
func TestTimed(t *testing.T) {
	randomly(t, 1500, func(r *rand.Rand, l []api.Step) {
		want(t, "Age", ageOf(l), results(oldest(l), api.OK))
		want(t, "Least", leastOf(l), results(youngest(l), api.OK))
		want(t, "Reaction", reactionOf(l), results(reaction(l), api.OK))
		want(t, "Lost", lostOf(l), results(lost(l), api.OK))
		want(t, "Doubled", doubledOf(l), results(doubled(l), api.OK))
	})
}

// numbersOf returns the greatest age, the greatest reaction, the least age, and how many runs are lost and doubled.
func numbersOf(t *testing.T, l []api.Step) (age, reaction, least, lost, doubled int) {
	t.Helper()
	x, e := chain.Age(l)
	reaction, e1 := chain.Reaction(l)
	least, e2 := chain.Least(l)
	lost, e3 := chain.Lost(l)
	doubled, e4 := chain.Doubled(l)
	want(t, "the errors", results(e, e1, e2, e3, e4), make([]int, 5))
	return x.Age, reaction, least, lost, doubled
}

// P5.4: no age and no reaction is more than its bound. P5.6: the greatest reaction. P5.7: what is lost and doubled.
func TestConsequences(t *testing.T) {
	randomly(t, 3000, func(r *rand.Rand, l []api.Step) {
		first, last := l[0], l[len(l)-1]
		age, reaction, least, lost, doubled := numbersOf(t, l)
		mostAge, mostReaction, e := chain.Bound(l)
		if e != api.OK || age > mostAge || reaction > mostReaction || least > age {
			t.Errorf("the ages %d to %d, the reaction %d; the bounds %d and %d", least, age, reaction, mostAge, mostReaction)
		}
		want(t, "the reaction", reaction, age+last.Every-1)
		round, _ := chain.Round(l)
		want(t, "the runs of the last step without the doubled ones", round/last.Every-doubled, round/first.Every-lost)
	})
}

// P5.4: the bounds are reached.
func TestBoundsReached(t *testing.T) {
	for _, l := range [][]api.Step{
		{timed(10, 3, 0), timed(1, 1, 0)},
		{timed(10, 3, 0), timed(10, 4, 2), timed(10, 5, 5)},
		{timed(10, 10, 0), timed(10, 10, 9), timed(10, 10, 8)},
		{timed(7, 7, 3)},
	} {
		age, reaction := bounds(l)
		got, slow, _, _, _ := numbersOf(t, l)
		want(t, "the ages", results(got, slow), results(age, reaction))
	}
}

// P5.8: one more step at the end.
func TestOneMoreStep(t *testing.T) {
	randomly(t, 2000, func(r *rand.Rand, l []api.Step) {
		last := l[len(l)-1]
		table := []int{1, 2, 3, last.Every, last.Every * 2, 7}
		every := table[r.Intn(len(table))]
		s := timed(every, among(r, 1, every), among(r, 0, every-1))
		age, _, least, _, _ := numbersOf(t, l)
		newAge, _, newLeast, _, _ := numbersOf(t, append(l, s))
		if newLeast < least+s.Response || newAge > age+s.Response+last.Every-1 {
			t.Errorf("with %v the ages %d to %d become %d to %d", s, least, age, newLeast, newAge)
		}
	})
}
