package chain_test

import (
	"math"
	"math/rand"
	"slices"
	"testing"

	"ignition/api"
	"ignition/bus"
	"ignition/chain"
)

// P5.3: Play of the example, of one step, of no runs, and of runs that begin or end at the same time.
func TestPlay(t *testing.T) {
	for _, x := range []struct {
		what         string
		l            []api.Step
		starts, ends [][]int
		want         []int
	}{
		{"the example", pair(), [][]int{{0, 10}, {3, 15}}, [][]int{{3, 14}, {6, 16}}, []int{6, 6}},
		{"a read a tick before the end", pair(), [][]int{{0, 10}, {2, 13}}, [][]int{{3, 14}, {6, 16}}, []int{-1, 16}},
		{"a read at the end", pair(), [][]int{{0, 10}, {3, 14}}, [][]int{{3, 14}, {6, 16}}, []int{6, 6}},
		{"one step", pair()[:1], [][]int{{1, 11}}, [][]int{{3, 14}}, []int{2, 3}},
		{"no runs of one step", pair()[:1], [][]int{nil}, [][]int{{}}, nil},
		{"no runs", pair(), [][]int{{}, nil}, [][]int{nil, {}}, nil},
		{"no runs of the first step", pair(), [][]int{{}, {3, 15}}, [][]int{{}, {6, 16}}, []int{-1, -1}},
		{"no runs of the last step", pair(), [][]int{{0, 10}, {}}, [][]int{{3, 14}, {}}, nil},
		{"no runs between", append(pair(), loose(5, 5)), [][]int{{0, 10}, {}, {1}}, [][]int{{3, 14}, {}, {5}}, []int{-1}},
		{"runs that end together", []api.Step{loose(1, 9), loose(10, 9)}, [][]int{{1, 2, 3}, {6}}, [][]int{{5, 6, 6}, {9}}, []int{6}},
		{"runs that start together", []api.Step{loose(1, 9), loose(1, 9)}, [][]int{{2, 2, 2}, {4, 4, 5}}, [][]int{{3, 4, 5}, {8, 9, 9}}, []int{6, 7, 7}},
		{"what is lost on its way", append(pair(), loose(10, 9)), [][]int{{0, 10}, {2, 13}, {7, 16}}, [][]int{{3, 14}, {6, 16}, {9, 19}}, []int{-1, 19}},
		{"three steps", []api.Step{loose(1, 5), loose(2, 5), loose(3, 5)}, [][]int{{0, 1, 2, 3}, {2, 4, 6}, {1, 3, 7}}, [][]int{{1, 3, 4, 7}, {3, 5, 9}, {2, 6, 9}}, []int{-1, 6, 7}},
		{"late runs of a fast step", []api.Step{loose(1, 50), loose(1, 1)}, [][]int{{20}, {0, 1, 2}}, [][]int{{50}, {1, 2, 3}}, []int{-1, -1, -1}},
	} {
		want(t, "Play of "+x.what, playOf(x.l, x.starts, x.ends), results(x.want, api.OK))
	}
}

// P5.3: random plays, run by run.
func TestRandomPlays(t *testing.T) {
	r := rand.New(rand.NewSource(3))
	for range 3000 {
		l := randomLoose(r, 1+r.Intn(4))
		starts, ends := randomPlay(r, l, func(int) int { return r.Intn(12) })
		want(t, "Play", playOf(l, starts, ends), results(ages(l, starts, ends), api.OK))
	}
}

// P5.3: the runs that a play may have, and those that it may not.
func TestRuns(t *testing.T) {
	far := 499 * api.MaxPeriod
	for _, x := range []struct {
		what         string
		s            api.Step
		starts, ends []int
		e            api.Errno
	}{
		{"as soon as they may", loose(10, 4), []int{0, 10, 20}, []int{1, 11, 21}, api.OK},
		{"as late as they may", loose(10, 4), []int{3, 13, 23}, []int{4, 14, 24}, api.OK},
		{"as long as they may", loose(10, 4), []int{0, 10, 20}, []int{4, 14, 24}, api.OK},
		{"a first one too soon", loose(10, 4), []int{-1, 10}, []int{1, 11}, api.ErrArg},
		{"a second one too soon", loose(10, 4), []int{0, 9}, []int{1, 11}, api.ErrArg},
		{"a last one too soon", loose(10, 4), []int{0, 10, 19}, []int{1, 11, 22}, api.ErrArg},
		{"a start before the one before", loose(1, 9), []int{5, 4}, []int{6, 7}, api.ErrArg},
		{"a start with the one before", loose(1, 9), []int{5, 5}, []int{6, 7}, api.OK},
		{"an end with its start", loose(10, 4), []int{0, 10}, []int{1, 10}, api.ErrArg},
		{"an end before its start", loose(10, 4), []int{2, 10}, []int{1, 11}, api.ErrArg},
		{"an end before the one before", loose(1, 9), []int{0, 1}, []int{5, 4}, api.ErrArg},
		{"an end with the one before", loose(1, 9), []int{0, 1}, []int{5, 5}, api.OK},
		{"a first end too late", loose(10, 4), []int{0, 10}, []int{5, 11}, api.ErrArg},
		{"a last end too late", loose(10, 4), []int{0, 10, 20}, []int{4, 14, 25}, api.ErrArg},
		{"the least start", loose(10, 4), []int{math.MinInt}, []int{4}, api.ErrArg},
		{"the greatest start", loose(10, 4), []int{math.MaxInt}, []int{4}, api.ErrArg},
		{"the least end", loose(10, 4), []int{0}, []int{math.MinInt}, api.ErrArg},
		{"the greatest end", loose(10, 4), []int{0}, []int{math.MaxInt}, api.ErrArg},
		{"the greatest start and end", loose(10, 4), []int{math.MaxInt}, []int{math.MaxInt}, api.ErrArg},
		{"the greatest start and the least end", loose(10, 4), []int{math.MaxInt}, []int{math.MinInt}, api.ErrArg},
		{"the most runs, all at once", loose(1, 500), slices.Repeat([]int{499}, 500), slices.Repeat([]int{500}, 500), api.OK},
		{"the most runs, all too soon", loose(1, 500), slices.Repeat([]int{498}, 500), slices.Repeat([]int{500}, 500), api.ErrArg},
		{"the most runs of the slowest step", greatest(), every(api.MaxReleases, 100000, 0), every(api.MaxReleases, 100000, 100000), api.OK},
		{"the most runs of the slowest step, the last too late", greatest(), every(api.MaxReleases, 100000, 0), append(every(499, 100000, 100000), far+100001), api.ErrArg},
	} {
		got := playOf([]api.Step{x.s}, [][]int{x.starts}, [][]int{x.ends})
		want(t, "the error of "+x.what, got[1], x.e)
		behind := playOf([]api.Step{x.s, loose(5, 5)}, [][]int{x.starts, nil}, [][]int{x.ends, nil})
		before := playOf([]api.Step{loose(5, 5), x.s}, [][]int{{1, 5}, x.starts}, [][]int{{2, 8}, x.ends})
		want(t, "the errors of "+x.what+" in longer chains", results(behind[1], before[1]), results(x.e, x.e))
		if x.e != api.OK {
			want(t, "the ages of "+x.what, results(got[0], behind[0], before[0]), results([]int{}, []int{}, []int{}))
		}
	}
}

// every returns n numbers, each of them so much more than the one before.
func every(n, more, first int) []int {
	var l []int
	for k := range n {
		l = append(l, first+k*more)
	}
	return l
}

// P5.3: the errors of Play, and which comes first.
func TestPlayErrors(t *testing.T) {
	late, ends := every(501, 1, 0), every(501, 1, 1)
	fast := []api.Step{loose(1, 1), loose(1, 1)}
	for _, x := range []struct {
		what         string
		l            []api.Step
		starts, ends [][]int
		e            api.Errno
	}{
		{"no chain", nil, nil, nil, api.ErrStep},
		{"a bad chain with a timed step", append(steps(), loose(0, 0)), nil, nil, api.ErrStep},
		{"a timed chain", steps(), nil, nil, api.ErrTimed},
		{"a mixed chain", mixed(), nil, nil, api.ErrTimed},
		{"a mixed chain that begins loose", append(pair(), steps()...), nil, nil, api.ErrTimed},
		{"a timed step with too many runs", steps()[:1], [][]int{late}, [][]int{ends}, api.ErrTimed},
		{"no lists", pair(), nil, nil, api.ErrArg},
		{"no starts", pair(), nil, [][]int{{3, 14}, {6, 16}}, api.ErrArg},
		{"no ends", pair(), [][]int{{0, 10}, {3, 15}}, nil, api.ErrArg},
		{"too few starts", pair(), [][]int{{}}, [][]int{{}, {}}, api.ErrArg},
		{"too few ends", pair(), [][]int{{}, {}}, [][]int{{}}, api.ErrArg},
		{"too few of both", pair(), [][]int{{}}, [][]int{{}}, api.ErrArg},
		{"too many starts", pair(), [][]int{{}, {}, {}}, [][]int{{}, {}}, api.ErrArg},
		{"too many ends", pair(), [][]int{{}, {}}, [][]int{{}, {}, {}}, api.ErrArg},
		{"too many of both", pair(), [][]int{{}, {}, {}}, [][]int{{}, {}, {}}, api.ErrArg},
		{"a start without an end", pair(), [][]int{{0, 10}, {3, 15}}, [][]int{{3}, {6, 16}}, api.ErrArg},
		{"an end without a start", pair(), [][]int{{0, 10}, {3}}, [][]int{{3, 14}, {6, 16}}, api.ErrArg},
		{"too many runs, and a start without an end", fast, [][]int{late, {0, 1}}, [][]int{ends, {1}}, api.ErrArg},
		{"too many runs, and a list too few", fast, [][]int{late}, [][]int{ends}, api.ErrArg},
		{"too many starts and the most ends", fast[:1], [][]int{late}, [][]int{ends[:500]}, api.ErrArg},
		{"the most runs", fast, [][]int{late[:500], late[:500]}, [][]int{ends[:500], ends[:500]}, api.OK},
		{"too many runs of the first step", fast, [][]int{late, late[:500]}, [][]int{ends, ends[:500]}, api.ErrMany},
		{"too many runs of the last step", fast, [][]int{late[:500], late}, [][]int{ends[:500], ends}, api.ErrMany},
		{"too many runs, which are bad", fast[:1], [][]int{make([]int, 501)}, [][]int{make([]int, 501)}, api.ErrMany},
		{"too many runs behind bad ones", fast, [][]int{{-1}, late}, [][]int{{1}, ends}, api.ErrMany},
	} {
		got := playOf(x.l, x.starts, x.ends)
		want(t, "the error of "+x.what, got[1], x.e)
		if x.e != api.OK {
			want(t, "the ages of "+x.what, got[0], []int{})
		}
	}
}

// lacksNone reports whether no step of a play lacks a run, as P5.5 asks for.
func lacksNone(l []api.Step, starts [][]int) bool {
	for i := 1; i < len(l); i++ {
		if n := len(starts[i]); n > 0 && l[i-1].Every*len(starts[i-1])+l[i-1].Response <= starts[i][n-1] {
			return false
		}
	}
	return true
}

// fullPlay returns a play in which no step lacks a run, often with as few runs as possible.
func fullPlay(r *rand.Rand, l []api.Step) (starts, ends [][]int) {
	n := 1 + r.Intn(12)
	for i := len(l) - 1; i >= 0; i-- {
		a, b := randomRuns(r, l[i], n)
		starts, ends = append([][]int{a}, starts...), append([][]int{b}, ends...)
		if i > 0 {
			n = r.Intn(2)
			for s := l[i-1]; len(a) > 0 && s.Every*n+s.Response <= a[len(a)-1]; {
				n++
			}
		}
	}
	return starts, ends
}

// P5.5: no play is older than the bound of its chain if no step lacks a run.
func TestNoPlayIsOlder(t *testing.T) {
	r := rand.New(rand.NewSource(7))
	reached, lack := 0, 0
	for range 5000 {
		l := randomLoose(r, 1+r.Intn(4))
		starts, ends := fullPlay(r, l)
		bound, _, _ := chain.Bound(l)
		all, e := chain.Play(l, starts, ends)
		if e != api.OK || !lacksNone(l, starts) || len(all) > 0 && slices.Max(all) > bound {
			t.Fatalf("Play of %v, %v, %v is %v, %d; the bound is %d", l, starts, ends, all, e, bound)
		}
		reached += len(slices.DeleteFunc(all, func(age int) bool { return age < bound }))
		starts[0], ends[0] = starts[0][:len(starts[0])/2], ends[0][:len(ends[0])/2]
		if all, _ := chain.Play(l, starts, ends); slices.ContainsFunc(all, func(age int) bool { return age > bound }) {
			lack++
		}
	}
	if reached < 20 || lack < 20 {
		t.Errorf("the bound is reached %d times, and without some runs exceeded %d times", reached, lack)
	}
	l := []api.Step{loose(10, 4), loose(13, 6)}
	want(t, "Play of what reaches the bound", playOf(l, [][]int{{0, 10}, {4, 13}}, [][]int{{4, 14}, {6, 19}}), results([]int{6, 19}, api.OK))
	want(t, "Bound", boundOf(l), results(19, 31, api.OK))
}

// P5.10: releases that keep the patterns, and when they have been sent, are a play of the steps of their frames.
// P0.3: and no value in it is older than the bound of its chain.
func TestFramesAreAPlay(t *testing.T) {
	r := rand.New(rand.NewSource(8))
	whole, over, reached := 0, 0, 0
	for range 5000 {
		l := randomFrames(r, 1+r.Intn(5))
		until := r.Intn(150)
		often := func(f api.Frame) int { return until/f.Every + r.Intn(2) }
		releases := patterns(r, l, often)
		var which []int
		for range 1 + r.Intn(4) {
			which = append(which, r.Intn(len(l)))
		}
		steps, e := chain.FromFrames(l, which)
		if e != api.OK {
			over++
			continue
		}
		starts, ends := playOfFrames(t, l, releases, which)
		all, e := chain.Play(steps, starts, ends)
		want(t, "the ages", results(all, e), results(ages(steps, starts, ends), api.OK))
		bound, _, _ := chain.Bound(steps)
		if lacksNone(steps, starts) && len(all) > 0 {
			whole++
			if slices.Max(all) > bound {
				t.Errorf("the ages are %v, the bound is %d", all, bound)
			}
			if slices.Max(all) == bound {
				reached++
			}
		}
		if t.Failed() {
			t.Fatalf("with the frames %v, the releases %v, and %v", l, releases, which)
		}
	}
	if whole < 1000 || over < 20 || reached < 20 {
		t.Errorf("%d plays lack no run, %d have no steps, %d reach their bound", whole, over, reached)
	}
}

// P0.3, P5.10: the example, with releases as late as they may be.
func TestExampleOfFrames(t *testing.T) {
	l := frames()
	releases := []api.Release{{Frame: 2}, {Frame: 0}, {Frame: 1, At: 2}, {Frame: 0, At: 10}, {Frame: 1, At: 16}, {Frame: 2, At: 20}, {Frame: 0, At: 20}}
	starts, ends := playOfFrames(t, l, releases, []int{0, 2})
	want(t, "the play", results(starts, ends), results([][]int{{0, 10, 20}, {0, 20}}, [][]int{{2, 12, 22}, {9, 26}}))
	steps, e := chain.FromFrames(l, []int{0, 2})
	want(t, "the error", e, api.OK)
	want(t, "Play", playOf(steps, starts, ends), results([]int{-1, 16}, api.OK))
	late := append(l, api.Frame{Size: 9, Every: 10, Due: 1, Rank: 4})
	n, e := bus.Response(late, 3)
	want(t, "the response that is none", results(n, e), results(0, api.ErrOver))
	want(t, "FromFrames", fromFramesOf(late, 2, 3), results([]api.Step{}, api.ErrOver))
}
