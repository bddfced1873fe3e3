package bus_test

import (
	"math"
	"math/rand"
	"slices"
	"testing"

	"ignition/api"
	"ignition/bus"
)

// P4.1: Check accepts frames up to their limits, and none beyond them.
func TestCheck(t *testing.T) {
	change := func(c func(f *api.Frame)) []api.Frame {
		l := frames()
		c(&l[1])
		return l
	}
	for _, x := range []struct {
		what string
		l    []api.Frame
		want api.Errno
	}{
		{"of none", nil, api.OK},
		{"of the example", frames(), api.OK},
		{"of the most", many(api.MaxFrames), api.OK},
		{"of one more", many(api.MaxFrames + 1), api.ErrFrame},
		{"of the least", []api.Frame{{Size: 1, Every: 1, Due: 1}}, api.OK},
		{"of the greatest", []api.Frame{{Size: 1000, Every: 100000, Jitter: 100000, Due: 100000, Rank: 1000}}, api.OK},
		{"with Size 0", change(func(f *api.Frame) { f.Size = 0 }), api.ErrFrame},
		{"with Size 1001", change(func(f *api.Frame) { f.Size = 1001 }), api.ErrFrame},
		{"with the least Size", change(func(f *api.Frame) { f.Size = math.MinInt }), api.ErrFrame},
		{"with the greatest Size", change(func(f *api.Frame) { f.Size = math.MaxInt }), api.ErrFrame},
		{"with Every 0", change(func(f *api.Frame) { f.Every = 0 }), api.ErrFrame},
		{"with Every 100001", change(func(f *api.Frame) { f.Every = 100001 }), api.ErrFrame},
		{"with the least Every", change(func(f *api.Frame) { f.Every = math.MinInt }), api.ErrFrame},
		{"with Due 0", change(func(f *api.Frame) { f.Due = 0 }), api.ErrFrame},
		{"with Due 100001", change(func(f *api.Frame) { f.Due = 100001 }), api.ErrFrame},
		{"with the greatest Due", change(func(f *api.Frame) { f.Due = math.MaxInt }), api.ErrFrame},
		{"with Jitter -1", change(func(f *api.Frame) { f.Jitter = -1 }), api.ErrFrame},
		{"with Jitter 100001", change(func(f *api.Frame) { f.Jitter = 100001 }), api.ErrFrame},
		{"with Rank -1", change(func(f *api.Frame) { f.Rank = -1 }), api.ErrFrame},
		{"with Rank 0", change(func(f *api.Frame) { f.Rank = 0 }), api.OK},
		{"with Rank 1001", change(func(f *api.Frame) { f.Rank = 1001 }), api.ErrFrame},
		{"with the Rank of the first", change(func(f *api.Frame) { f.Rank = 1 }), api.ErrFrame},
		{"with the Rank of the last", change(func(f *api.Frame) { f.Rank = 3 }), api.ErrFrame},
	} {
		want(t, "Check "+x.what, bus.Check(x.l), x.want)
	}
}

// exampleReleases are those of the chapter's examples.
func exampleReleases() []api.Release {
	return []api.Release{{Frame: 2}, {Frame: 0, At: 1}, {Frame: 1, At: 1}, {Frame: 0, At: 11}}
}

// P4.1: Play of the example, of nothing, and of releases of the same frame and at the same tick.
func TestPlay(t *testing.T) {
	want(t, "Play", playOf(frames(), exampleReleases()), results([]int{4, 6, 9, 13}, api.OK))
	want(t, "Play of no releases", playOf(frames(), nil), results([]int{}, api.OK))
	want(t, "Play of no frames", playOf(nil, nil), results([]int{}, api.OK))
	for _, x := range []struct {
		what string
		l    []api.Release
		ends []int
	}{
		{"at the tick at which the bus is free again", []api.Release{{Frame: 2}, {Frame: 1, At: 3}, {Frame: 0, At: 4}}, []int{4, 9, 6}},
		{"a tick later", []api.Release{{Frame: 2}, {Frame: 1, At: 3}, {Frame: 0, At: 5}}, []int{4, 7, 9}},
		{"of one frame in another order", []api.Release{{Frame: 1, At: 9}, {Frame: 1, At: 8}, {Frame: 1, At: 7}}, []int{16, 13, 10}},
		{"of one frame at the same tick", []api.Release{{Frame: 1, At: 7}, {Frame: 1, At: 7}, {Frame: 1, At: 7}}, []int{10, 13, 16}},
		{"of one frame that waits in another order", []api.Release{{Frame: 2}, {Frame: 1, At: 2}, {Frame: 1, At: 1}, {Frame: 1, At: 2}}, []int{4, 10, 7, 13}},
		{"long after each other", []api.Release{{Frame: 0, At: api.MaxTime}, {Frame: 0, At: 999998}, {Frame: 2}}, []int{1000002, 1000000, 4}},
	} {
		want(t, "Play "+x.what, playOf(frames(), x.l), results(x.ends, api.OK))
	}
}

// P4.1: the errors of Play, and which comes first.
func TestPlayErrors(t *testing.T) {
	bad := []api.Frame{{}}
	for _, x := range []struct {
		what     string
		l        []api.Frame
		releases []api.Release
		e        api.Errno
	}{
		{"of frames that are not valid, and too many releases", bad, make([]api.Release, 501), api.ErrFrame},
		{"of frames that are not valid, and a bad release", bad, []api.Release{{Frame: 5}}, api.ErrFrame},
		{"of too many releases of no frame", nil, make([]api.Release, 501), api.ErrMany},
		{"of a release of no frame", nil, make([]api.Release, 1), api.ErrArg},
		{"of too many releases", frames(), make([]api.Release, 501), api.ErrMany},
		{"of a frame below all", frames(), []api.Release{{}, {Frame: -1}}, api.ErrArg},
		{"of a frame beyond all", frames(), []api.Release{{}, {Frame: 3}}, api.ErrArg},
		{"of the least frame", frames(), []api.Release{{Frame: math.MinInt}}, api.ErrArg},
		{"of the greatest frame", frames(), []api.Release{{Frame: math.MaxInt}}, api.ErrArg},
		{"at -1", frames(), []api.Release{{}, {At: -1}}, api.ErrArg},
		{"at 1000001", frames(), []api.Release{{}, {At: 1000001}}, api.ErrArg},
		{"at the least tick", frames(), []api.Release{{At: math.MinInt}}, api.ErrArg},
		{"at the greatest tick", frames(), []api.Release{{At: math.MaxInt}}, api.ErrArg},
	} {
		want(t, "Play "+x.what, playOf(x.l, x.releases), results([]int{}, x.e))
		want(t, "Keeps "+x.what, keepsOf(x.l, x.releases, nil), results(false, x.e))
	}
	_, e := bus.Play(frames(), make([]api.Release, api.MaxReleases))
	want(t, "Play of 500 releases", e, api.OK)
}

// randomReleases returns releases of frames; many are at the same tick.
func randomReleases(r *rand.Rand, l []api.Frame) []api.Release {
	var releases []api.Release
	for range r.Intn(12) {
		if len(l) > 0 {
			releases = append(releases, api.Release{Frame: r.Intn(len(l)), At: r.Intn(40)})
		}
	}
	return releases
}

// P4.1: Play is what a bus does, tick by tick.
func TestPlayRandom(t *testing.T) {
	randomly(t, 4000, func(r *rand.Rand, l []api.Frame) {
		releases := randomReleases(r, l)
		want(t, "Play", playOf(l, releases), results(plays(l, releases), api.OK))
	})
}

// P4.10: the bus sends one release at a time, and is never free while one waits.
func TestPlayNeverIdle(t *testing.T) {
	randomly(t, 4000, func(r *rand.Rand, l []api.Frame) {
		releases := randomReleases(r, l)
		ends, e := bus.Play(l, releases)
		want(t, "the error", e, api.OK)
		sends := map[int]int{}
		for i, x := range releases {
			for at := ends[i] - l[x.Frame].Size; at < ends[i]; at++ {
				sends[at]++
			}
		}
		for _, n := range sends {
			want(t, "how many are sent at a time", n, 1)
		}
		for i, x := range releases {
			start := ends[i] - l[x.Frame].Size
			if start < x.At {
				t.Errorf("the release %v begins at %d", x, start)
			}
			for at := x.At; at < start; at++ {
				if sends[at] == 0 {
					t.Errorf("the release %v waits at %d, and the bus is free", x, at)
				}
			}
		}
	})
}

// P4.1: Keeps of the example, of nothing, and at the edges of patterns.
func TestKeeps(t *testing.T) {
	want(t, "Keeps of no frames", keepsOf(nil, nil, nil), results(true, api.OK))
	want(t, "Keeps of no releases", keepsOf(frames(), nil, []int{0, 5, api.MaxTime}), results(true, api.OK))
	for _, x := range []struct {
		what     string
		releases []api.Release
		offsets  []int
		is       bool
	}{
		{"with 1 1 0", exampleReleases(), []int{1, 1, 0}, true},
		{"with 1 0 0", exampleReleases(), []int{1, 0, 0}, true},
		{"with 2 1 0", exampleReleases(), []int{2, 1, 0}, false},
		{"with 1 2 0: too early", exampleReleases(), []int{1, 2, 0}, false},
		{"too late", []api.Release{{Frame: 1, At: 3}}, []int{0, 0, 0}, false},
		{"as late as may be", []api.Release{{Frame: 1, At: 2}, {Frame: 1, At: 17}, {Frame: 1, At: 30}}, []int{0, 0, 0}, true},
		{"too early the second time", []api.Release{{Frame: 1, At: 2}, {Frame: 1, At: 14}}, []int{0, 0, 0}, false},
		{"too late the second time", []api.Release{{Frame: 1}, {Frame: 1, At: 18}}, []int{0, 0, 0}, false},
		{"one is left out", []api.Release{{Frame: 1}, {Frame: 1, At: 30}}, []int{0, 0, 0}, false},
		{"the last one is bad", []api.Release{{Frame: 2}, {Frame: 0}, {Frame: 2, At: 21}}, []int{0, 0, 0}, false},
		{"in another order of the frames", []api.Release{{Frame: 2, At: 5}, {Frame: 0}, {Frame: 2, At: 25}, {Frame: 0, At: 10}}, []int{0, 0, 5}, true},
		{"at the greatest ticks", []api.Release{{Frame: 1, At: api.MaxTime}}, []int{0, api.MaxTime, 0}, true},
	} {
		want(t, "Keeps "+x.what, keepsOf(frames(), x.releases, x.offsets), results(x.is, api.OK))
	}
	// Jitter is more than Every here: a release may be due long before the one before it comes, but comes behind it.
	often := []api.Frame{{Size: 1, Every: 1, Jitter: 9, Due: 1}}
	for _, x := range []struct {
		at []int
		is bool
	}{
		{[]int{9, 9, 9, 9}, true}, {[]int{9, 10, 11, 12}, true}, {[]int{5, 5, 4}, false}, {[]int{5, 4}, false}, {[]int{5, 5, 6}, true},
	} {
		var releases []api.Release
		for _, at := range x.at {
			releases = append(releases, api.Release{At: at})
		}
		want(t, "Keeps of a frame that comes often", keepsOf(often, releases, []int{0}), results(x.is, api.OK))
	}
}

// P4.1: the errors of Keeps that are not those of Play.
func TestKeepsErrors(t *testing.T) {
	for _, offsets := range [][]int{nil, {0, 0}, {0, 0, 0, 0}, {-1, 0, 0}, {0, 0, 1000001}, {0, math.MinInt, 0}, {0, math.MaxInt, 0}} {
		want(t, "Keeps", keepsOf(frames(), exampleReleases(), offsets), results(false, api.ErrArg))
	}
	want(t, "Keeps without frames", keepsOf(nil, nil, []int{0}), results(false, api.ErrArg))
}

// keeps is the plain definition of releases that keep the patterns of their frames.
func keeps(l []api.Frame, releases []api.Release, offsets []int) bool {
	for i, f := range l {
		k, before := 0, 0
		for _, x := range releases {
			if x.Frame != i {
				continue
			}
			t := offsets[i] + k*f.Every
			if x.At < t || x.At > t+f.Jitter || k > 0 && x.At < before {
				return false
			}
			k, before = k+1, x.At
		}
	}
	return true
}

// patterns returns offsets, releases that keep the patterns of frames, and when each of these is due.
func patterns(r *rand.Rand, l []api.Frame, most int) (offsets []int, releases []api.Release, dues []int) {
	type due struct {
		api.Release
		due int
	}
	var all []due
	together := r.Intn(2) == 0
	for i, f := range l {
		offset := r.Intn(30)
		if together {
			offset = 0
		}
		offsets = append(offsets, offset)
		before := 0
		for k := range r.Intn(most) {
			t := offset + k*f.Every
			before = max(before, t+among(r, 0, f.Jitter))
			all = append(all, due{api.Release{Frame: i, At: before}, t})
		}
	}
	for _, k := range mixed(r, len(all), func(a, b int) bool { return all[a].Frame == all[b].Frame }) {
		releases, dues = append(releases, all[k].Release), append(dues, all[k].due)
	}
	return offsets, releases, dues
}

// mixed returns the numbers below n in a random order in which those that belong together stay in their own.
func mixed(r *rand.Rand, n int, belong func(a, b int) bool) []int {
	l := r.Perm(n)
	for range l {
		for i := range l {
			for k := range i {
				if belong(l[k], l[i]) && l[k] > l[i] {
					l[k], l[i] = l[i], l[k]
				}
			}
		}
	}
	return l
}

// P4.1: Keeps is as defined, for releases that keep patterns, and for such of which something is changed.
func TestKeepsRandom(t *testing.T) {
	kept := map[bool]int{}
	randomly(t, 3000, func(r *rand.Rand, l []api.Frame) {
		offsets, releases, _ := patterns(r, l, 4)
		want(t, "Keeps", keepsOf(l, releases, offsets), results(true, api.OK))
		if len(releases) == 0 {
			return
		}
		i := r.Intn(len(releases))
		switch r.Intn(3) {
		case 0:
			releases[i].At = max(releases[i].At+r.Intn(7)-3, 0)
		case 1:
			releases = slices.Delete(releases, i, i+1)
		case 2:
			offsets[releases[i].Frame] = max(offsets[releases[i].Frame]+r.Intn(7)-3, 0)
		}
		is := keeps(l, releases, offsets)
		kept[is]++
		want(t, "Keeps", keepsOf(l, releases, offsets), results(is, api.OK))
	})
	if kept[true] < 100 || kept[false] < 100 {
		t.Errorf("of the changed releases so many keep patterns: %v", kept)
	}
}
