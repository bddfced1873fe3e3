package bus_test

import (
	"math/rand"
	"slices"
	"testing"

	"ignition/api"
	"ignition/bus"
)

// ranks is the plain definition of the ranks that Rank gives; nil if there are none.
func ranks(l []api.Frame) []int {
	given := make([]int, len(l))
	for i := range given {
		given[i] = -1
	}
	for n := len(l) - 1; n >= 0; n-- {
		found := false
		for i := range l {
			if given[i] >= 0 {
				continue
			}
			// All others without a rank are above i, and how they are ranked among each other counts for nothing.
			try, free := slices.Clone(given), 0
			for k := range try {
				if k != i && try[k] < 0 {
					try[k], free = free, free+1
				}
			}
			try[i] = n
			if !isLate(ranked(l, try), i) {
				given[i], found = n, true
				break
			}
		}
		if !found {
			return nil
		}
	}
	return given
}

// permutations calls look with all orders of the numbers below n.
func permutations(n int, look func(l []int)) {
	var put func(l []int)
	put = func(l []int) {
		if len(l) == n {
			look(l)
			return
		}
		for i := range n {
			if !slices.Contains(l, i) {
				put(append(slices.Clone(l), i))
			}
		}
	}
	put(nil)
}

// hurried gives frames as much time as they need with random ranks, or nearly so.
func hurried(r *rand.Rand, l []api.Frame) []api.Frame {
	l = ranked(l, r.Perm(len(l)))
	for i, n := range responses(l) {
		if n >= 0 {
			l[i].Due = max(n-r.Intn(4)/3, 1)
		}
	}
	return ranked(l, r.Perm(len(l)))
}

// P4.2: Rank is as defined. P4.6: with its ranks no frame is late, and if it has none there are none.
func TestRank(t *testing.T) {
	given, none := 0, 0
	randomly(t, 1000, func(r *rand.Rand, l []api.Frame) {
		l = hurried(r, l)
		if len(l) > 4 {
			l = l[:4]
		}
		got, e := bus.Rank(l)
		should := ranks(l)
		want(t, "Rank", got, should)
		if len(should) == len(l) {
			given++
			want(t, "the error", e, api.OK)
			want(t, "Late with the ranks of Rank", lateOf(ranked(l, got)), results([]int{}, api.OK))
			return
		}
		none++
		want(t, "the error", e, api.ErrRank)
		permutations(len(l), func(other []int) {
			if all, _ := bus.Late(ranked(l, other)); len(all) == 0 {
				t.Errorf("with the ranks %v no frame is late", other)
			}
		})
	})
	if given < 100 || none < 100 {
		t.Errorf("%d frames have ranks, %d have none", given, none)
	}
}

// P4.2: the Ranks of the frames count for nothing.
func TestRanksCountForNothing(t *testing.T) {
	randomly(t, 500, func(r *rand.Rand, l []api.Frame) {
		l = hurried(r, l)
		want(t, "Rank with other ranks", rankOf(ranked(l, r.Perm(len(l)))), rankOf(l))
	})
	l := frames()
	l[0].Rank = 1000
	want(t, "Rank", rankOf(l), results([]int{0, 2, 1}, api.OK))
}

// P4.2: of several frames the first one gets the greatest rank.
func TestRankOfEqualFrames(t *testing.T) {
	l := many(5)
	want(t, "Rank", rankOf(l), results([]int{4, 3, 2, 1, 0}, api.OK))
	l[0].Due = 3
	want(t, "Rank with little time", rankOf(l), results([]int{2, 4, 3, 1, 0}, api.OK))
}
