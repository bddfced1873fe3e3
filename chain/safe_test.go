package chain_test

import (
	"fmt"
	"math"
	"math/rand"
	"slices"
	"strings"
	"testing"

	"ignition/api"
	"ignition/chain"
)

// argument is a list of arguments for all functions.
type argument struct {
	steps         []api.Step
	frames        []api.Frame
	which         []int
	starts, ends  [][]int
	number, limit int
}

// call calls every function of the package, and returns all that they return.
func call(a argument) [][]any {
	return [][]any{
		results(chain.Check(a.steps)), fromFramesOf(a.frames, a.which...), boundOf(a.steps), roundOf(a.steps),
		ageOf(a.steps), leastOf(a.steps), reactionOf(a.steps), lostOf(a.steps), doubledOf(a.steps),
		shiftOf(a.steps, a.number), playOf(a.steps, a.starts, a.ends), withinOf(a.steps, a.limit, a.number),
	}
}

// numbers are of all sorts.
func numbers() []int {
	return []int{0, 1, 2, 3, 5, -1, 10, 11, 500, 501, 10000, 10001, 100000, 100001, math.MinInt, math.MinInt + 1, math.MaxInt - 1, math.MaxInt}
}

// spoil changes something of the arguments to a number of any sort.
func spoil(r *rand.Rand, a *argument) {
	any := func() int { return numbers()[r.Intn(len(numbers()))] }
	change := func(l [][]int) {
		if i := r.Intn(len(l) + 1); i < len(l) && len(l[i]) > 0 {
			l[i][r.Intn(len(l[i]))] = any()
		}
	}
	switch r.Intn(9) {
	case 0:
		a.steps = append(a.steps, api.Step{Every: any(), Response: any(), Offset: any(), Timed: r.Intn(2) == 0})
	case 1:
		a.steps = slices.Repeat(a.steps, r.Intn(5))
	case 2:
		a.frames = append(a.frames, api.Frame{Size: any(), Every: any(), Due: any(), Jitter: any(), Rank: any()})
	case 3:
		a.which = append(a.which, any())
	case 4:
		a.starts = append(a.starts, []int{any()})
	case 5:
		a.ends = append(a.ends, []int{any(), any()})
	case 6:
		change(a.starts)
	case 7:
		change(a.ends)
	case 8:
		change(a.starts)
		change(a.ends)
	}
}

// arguments returns arguments for all functions, many of them bad ones.
func arguments() []argument {
	r := rand.New(rand.NewSource(13))
	var all []argument
	for range 3000 {
		a := argument{
			steps: randomTimed(r, r.Intn(5)), frames: randomFrames(r, r.Intn(5)),
			number: numbers()[r.Intn(len(numbers()))], limit: numbers()[r.Intn(len(numbers()))],
		}
		if r.Intn(2) == 0 {
			a.steps = randomLoose(r, r.Intn(5))
			a.starts, a.ends = randomPlay(r, a.steps, func(int) int { return r.Intn(9) })
		}
		for range r.Intn(4) {
			a.which = append(a.which, r.Intn(4))
		}
		for range r.Intn(4) {
			spoil(r, &a)
		}
		all = append(all, a)
	}
	return all
}

// P0.1: every function ends, for all arguments; results depend on arguments alone, which are not changed.
// With the rule R2: with an error every other result is its zero value.
func TestAllArguments(t *testing.T) {
	good, bad := map[int]int{}, map[int]int{}
	for _, a := range arguments() {
		before := fmt.Sprint(a)
		first := call(a)
		want(t, "the second results", call(a), first)
		if fmt.Sprint(a) != before {
			t.Fatalf("the arguments %s became %v", before, a)
		}
		for i, l := range first {
			if l[len(l)-1] == api.OK {
				good[i]++
				continue
			}
			bad[i]++
			for _, x := range l[:len(l)-1] {
				if zero := strings.Trim(fmt.Sprint(x), "[]{} 0"); zero != "" && zero != "false" {
					t.Fatalf("function %d returns %v", i, l)
				}
			}
		}
	}
	for i := range 12 {
		if good[i] < 100 || bad[i] < 100 {
			t.Errorf("function %d: %d times without an error, %d times with one", i, good[i], bad[i])
		}
	}
}

// spare returns a copy with room for more.
func spare[T any](l []T) []T { return append(make([]T, 0, len(l)+5), l...) }

// behind returns what stands in the room behind a list.
func behind[T any](l []T) string { return fmt.Sprint(l[len(l):cap(l)]) }

// accepting returns arguments that every function accepts, with spare capacity in every list: one for timed chains, and one for loose ones.
func accepting() []argument {
	a := argument{steps: spare(steps()), frames: spare(frames()), which: spare([]int{0, 2, 0}), number: 2, limit: 20}
	b := a
	b.steps = spare(pair())
	b.starts, b.ends = spare([][]int{spare([]int{0, 10}), spare([]int{3, 15})}), spare([][]int{spare([]int{3, 14}), spare([]int{6, 16})})
	return []argument{a, b}
}

// The rule R4: what stands behind the ends of the arguments' lists stays, and so does what stands in them.
func TestSpareCapacity(t *testing.T) {
	look := func(a argument) []string {
		l := []string{fmt.Sprint(a), behind(a.steps), behind(a.frames), behind(a.which), behind(a.starts), behind(a.ends)}
		for i := range a.starts {
			l = append(l, behind(a.starts[i]), behind(a.ends[i]))
		}
		return l
	}
	for _, a := range accepting() {
		before := look(a)
		call(a)
		for step := range a.steps {
			chain.Shift(a.steps, step)
		}
		want(t, "what stands in the arguments and behind them", look(a), before)
	}
}

// The rule R4: what is done with results shows nowhere else, neither in arguments nor in other results.
func TestResultsAreNew(t *testing.T) {
	for _, a := range accepting() {
		before, first := fmt.Sprint(a), fmt.Sprint(call(a))
		for _, l := range call(a) {
			for _, x := range l {
				switch x := x.(type) {
				case []int:
					for i := range x {
						x[i] = -7
					}
				case []api.Step:
					for i := range x {
						x[i].Every = -7
					}
				case chain.Trace:
					for i := range x.Reads {
						x.Reads[i] = -7
					}
				}
			}
		}
		want(t, "the arguments", a, before)
		want(t, "the results", call(a), first)
	}
	starts, ends := [][]int{{1, 11}}, [][]int{{3, 14}}
	all, _ := chain.Play(pair()[:1], starts, ends)
	all[0], all[1] = 8, 9
	want(t, "the starts and ends", results(starts, ends), results([][]int{{1, 11}}, [][]int{{3, 14}}))
}

// The rule R3: nil and empty lists are the same.
func TestEmptyLists(t *testing.T) {
	some := argument{steps: []api.Step{}, frames: []api.Frame{}, which: []int{}, starts: [][]int{}, ends: [][]int{}}
	want(t, "the results", call(some), call(argument{}))
	want(t, "FromFrames", fromFramesOf(frames(), []int{}...), fromFramesOf(frames()))
	want(t, "Play of empty lists", playOf(pair(), [][]int{}, [][]int{}), playOf(pair(), nil, nil))
	want(t, "Play of empty runs", playOf(pair(), [][]int{{}, nil}, [][]int{nil, {}}), playOf(pair(), [][]int{nil, {}}, [][]int{{}, nil}))
}
