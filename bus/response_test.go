package bus_test

import (
	"fmt"
	"math"
	"math/rand"
	"slices"
	"testing"

	"ignition/api"
	"ignition/bus"
)

// P4.2: the examples.
func TestResponses(t *testing.T) {
	l := frames()
	want(t, "Responses", responsesOf(l), results([]int{5, 10, 9}, api.OK))
	for i, n := range []int{5, 10, 9} {
		want(t, "Response", responseOf(l, i), results(n, api.OK))
	}
	want(t, "Late", lateOf(l), results([]int{}, api.OK))
	want(t, "Rank", rankOf(l), results([]int{0, 2, 1}, api.OK))
	l[0].Due = 4
	want(t, "Late with Due 4", lateOf(l), results([]int{0}, api.OK))
	want(t, "Rank with Due 4", rankOf(l), results([]int{}, api.ErrRank))
}

// P4.2: without frames there are no responses, and with one frame there is its own size.
func TestFewFrames(t *testing.T) {
	want(t, "Responses of none", responsesOf(nil), results([]int{}, api.OK))
	want(t, "Late of none", lateOf(nil), results([]int{}, api.OK))
	want(t, "Rank of none", rankOf(nil), results([]int{}, api.OK))
	for _, x := range []struct {
		frame    api.Frame
		response int
	}{
		{api.Frame{Size: 1, Every: 1, Due: 1}, 1},
		{api.Frame{Size: 1000, Every: 1000, Due: 1000}, 1000},
		{api.Frame{Size: 1000, Every: 100000, Due: 1000, Jitter: 100000}, 101000},
		{api.Frame{Size: 1, Every: 1, Due: 1, Jitter: 1}, -1},
		{api.Frame{Size: 2, Every: 1, Due: 1}, -1},
	} {
		l := []api.Frame{x.frame}
		want(t, "Responses of one", responsesOf(l), results([]int{x.response}, api.OK))
		if x.response == x.frame.Due {
			want(t, "Rank of one", rankOf(l), results([]int{0}, api.OK))
			continue
		}
		want(t, "Late of one", lateOf(l), results([]int{0}, api.OK))
		want(t, "Rank of one", rankOf(l), results([]int{}, api.ErrRank))
	}
}

// P4.2: the errors, and which comes first.
func TestResponseErrors(t *testing.T) {
	for _, i := range []int{-1, 3, math.MinInt, math.MaxInt} {
		want(t, "Response of no frame", responseOf(frames(), i), results(0, api.ErrArg))
		want(t, "Response of no valid frame", responseOf([]api.Frame{{}}, i), results(0, api.ErrFrame))
	}
	want(t, "Response of none", responseOf(nil, 0), results(0, api.ErrArg))
	twice := frames()
	twice[2].Rank = 1
	for _, l := range [][]api.Frame{{{}}, twice, many(41)} {
		want(t, "Response", responseOf(l, 0), results(0, api.ErrFrame))
		want(t, "Responses", responsesOf(l), results([]int{}, api.ErrFrame))
		want(t, "Late", lateOf(l), results([]int{}, api.ErrFrame))
		want(t, "Rank", rankOf(l), results([]int{}, api.ErrFrame))
	}
	full := []api.Frame{{Size: 5, Every: 5, Due: 5, Rank: 1}, {Size: 1, Every: 100, Due: 100, Rank: 2}}
	want(t, "Responses of a full bus", responsesOf(full), results([]int{5, -1}, api.OK))
	want(t, "Response of a full bus", responseOf(full, 1), results(0, api.ErrOver))
	want(t, "Response of a full bus", responseOf(full, 0), results(5, api.OK))
	want(t, "Late of a full bus", lateOf(full), results([]int{1}, api.OK))
	want(t, "Rank of a full bus", rankOf(full), results([]int{}, api.ErrRank))
	want(t, "Response of no frame of a full bus", responseOf(full, 2), results(0, api.ErrArg))
}

// P4.2: a bus that is busy for MaxTime gives a response, and one that is a tick longer gives none.
func TestLongestBusy(t *testing.T) {
	l := []api.Frame{{Size: 1000, Every: 1100, Jitter: 99999, Due: 1}, {Size: 1, Every: 1, Due: 1, Rank: 1}}
	want(t, "the Response in MaxTime", responseOf(l, 0), results(100999, api.OK))
	l[1].Size = 2
	want(t, "the Response a tick later", responseOf(l, 0), results(0, api.ErrOver))
	l[0].Jitter = 99899
	want(t, "the Response with one release less", responseOf(l, 0), results(100900, api.OK))
}

// P4.2: what waits longest need not be the first release of a busy time.
func TestLaterReleaseIsWorst(t *testing.T) {
	l := []api.Frame{{Size: 10, Every: 25, Due: 100}, {Size: 10, Every: 35, Due: 100, Rank: 1}, {Size: 10, Every: 35, Due: 100, Rank: 2}}
	want(t, "Responses", responsesOf(l), results([]int{19, 29, 35}, api.OK))
	l[2].Due = 34
	want(t, "Late", lateOf(l), results([]int{2}, api.OK))
	l[2].Due = 35
	want(t, "Late", lateOf(l), results([]int{}, api.OK))
}

// P4.2: the functions are as defined.
func TestResponsesRandom(t *testing.T) {
	over, some := 0, 0
	randomly(t, 1500, func(r *rand.Rand, l []api.Frame) {
		should := responses(l)
		want(t, "Responses", responsesOf(l), results(should, api.OK))
		for i, n := range should {
			if n < 0 {
				over++
				want(t, "Response", responseOf(l, i), results(0, api.ErrOver))
				continue
			}
			want(t, "Response", responseOf(l, i), results(n, api.OK))
			if n%2 == 0 {
				l[i].Due = among(r, max(n-1, 1), n)
			}
		}
		all := late(l)
		some += len(all)
		want(t, "Late", lateOf(l), results(all, api.OK))
	})
	if over < 100 || some < 100 {
		t.Errorf("%d frames have no response, %d are late", over, some)
	}
}

// P4.2: t and w are the least numbers that do not change: no lower ones are equal to their right sides.
func TestLeast(t *testing.T) {
	r := rand.New(rand.NewSource(3))
	for range 300 {
		l := randomFrames(r, 3, shape{3, 12, 4})
		slices.SortFunc(l, func(a, b api.Frame) int { return a.Rank - b.Rank })
		got, e := bus.Response(l, 2)
		if e != api.OK {
			continue
		}
		first := func(from int, right func(n int) int) int {
			for right(from) != from {
				from++
			}
			return from
		}
		f := l[2]
		busy := first(1, func(t int) int { return sum(l, func(g api.Frame) int { return up(t+g.Jitter, g.Every) }) })
		most := 0
		for q := range up(busy+f.Jitter, f.Every) {
			w := first(0, func(w int) int {
				return q*f.Size + sum(l[:2], func(g api.Frame) int { return (w+g.Jitter)/g.Every + 1 })
			})
			most = max(most, w+f.Size+f.Jitter-q*f.Every)
		}
		want(t, fmt.Sprintf("the Response of the last frame of %v", l), got, most)
	}
}

// P4.5: in every play of releases that keep the patterns, no release ends later than its response after its due start.
func TestNoFrameIsLater(t *testing.T) {
	reached := 0
	randomly(t, 4000, func(r *rand.Rand, l []api.Frame) {
		all, e := bus.Responses(l)
		want(t, "the error", e, api.OK)
		offsets, releases, dues := patterns(r, l, 20)
		want(t, "Keeps", keepsOf(l, releases, offsets), results(true, api.OK))
		ends, e := bus.Play(l, releases)
		want(t, "the error", e, api.OK)
		for i, x := range releases {
			n := all[x.Frame]
			if n >= 0 && ends[i]-dues[i] > n {
				t.Errorf("with the offsets %v and the releases %v the release %d ends at %d", offsets, releases, i, ends[i])
			}
			if ends[i]-dues[i] == n {
				reached++
			}
		}
	})
	if reached < 1000 {
		t.Errorf("only %d releases take as long as may be", reached)
	}
}

// P4.7: with a longer Size, a greater Jitter or a shorter Every no response becomes shorter.
func TestMoreMakesLater(t *testing.T) {
	randomly(t, 2500, func(r *rand.Rand, l []api.Frame) {
		if len(l) == 0 {
			return
		}
		more := slices.Clone(l)
		f := &more[r.Intn(len(l))]
		switch r.Intn(3) {
		case 0:
			f.Size += among(r, 1, 5)
		case 1:
			f.Jitter += among(r, 1, 20)
		case 2:
			f.Every -= min(among(r, 1, 5), f.Every-1)
		}
		before, _ := bus.Responses(l)
		after, _ := bus.Responses(more)
		for i := range l {
			if after[i] >= 0 && (before[i] < 0 || after[i] < before[i]) {
				t.Errorf("the responses %v become %v with %v", before, after, more)
			}
		}
	})
}
