package chain_test

import (
	"math"
	"math/rand"
	"slices"
	"testing"

	"ignition/api"
	"ignition/bus"
	"ignition/chain"
)

// P5.1: Check accepts chains up to their limits, and none beyond them.
func TestCheck(t *testing.T) {
	for _, x := range []struct {
		what string
		l    []api.Step
		want api.Errno
	}{
		{"of no steps", nil, api.ErrStep},
		{"of an empty list", []api.Step{}, api.ErrStep},
		{"of one step", steps()[:1], api.OK},
		{"of the most steps", slices.Repeat(steps()[:1], api.MaxSteps), api.OK},
		{"of one more", slices.Repeat(steps()[:1], api.MaxSteps+1), api.ErrStep},
		{"of the example", steps(), api.OK},
		{"of a loose chain", pair(), api.OK},
		{"of loose and timed steps", mixed(), api.OK},
		{"of the least loose step", []api.Step{least()}, api.OK},
		{"of the greatest loose step", []api.Step{greatest()}, api.OK},
		{"of the least timed step", []api.Step{timed(1, 1, 0)}, api.OK},
		{"of the greatest timed step", []api.Step{timed(100000, 100000, 99999)}, api.OK},
		{"with loose Every 0", []api.Step{loose(0, 1)}, api.ErrStep},
		{"with loose Every 100001", []api.Step{loose(100001, 1)}, api.ErrStep},
		{"with loose Every -1", []api.Step{loose(-1, 1)}, api.ErrStep},
		{"with the least Every", []api.Step{loose(math.MinInt, 1)}, api.ErrStep},
		{"with the greatest Every", []api.Step{loose(math.MaxInt, 1)}, api.ErrStep},
		{"with loose Response 0", []api.Step{loose(1, 0)}, api.ErrStep},
		{"with loose Response 100001", []api.Step{loose(1, 100001)}, api.ErrStep},
		{"with the least Response", []api.Step{loose(1, math.MinInt)}, api.ErrStep},
		{"with the greatest Response", []api.Step{loose(1, math.MaxInt)}, api.ErrStep},
		{"with a loose Response above Every", []api.Step{loose(1, 2)}, api.OK},
		{"with a loose Offset 1", []api.Step{{Every: 5, Response: 5, Offset: 1}}, api.ErrStep},
		{"with a loose Offset -1", []api.Step{{Every: 5, Response: 5, Offset: -1}}, api.ErrStep},
		{"with timed Every 0", []api.Step{timed(0, 0, 0)}, api.ErrStep},
		{"with timed Every 0 and Response 1", []api.Step{timed(0, 1, 0)}, api.ErrStep},
		{"with timed Every 100001", []api.Step{timed(100001, 1, 0)}, api.ErrStep},
		{"with the greatest timed Every", []api.Step{timed(math.MaxInt, 1, 0)}, api.ErrStep},
		{"with timed Response 0", []api.Step{timed(5, 0, 0)}, api.ErrStep},
		{"with a timed Response of Every", []api.Step{timed(5, 5, 0)}, api.OK},
		{"with a timed Response above Every", []api.Step{timed(5, 6, 0)}, api.ErrStep},
		{"with timed Offset -1", []api.Step{timed(5, 5, -1)}, api.ErrStep},
		{"with timed Offset Every - 1", []api.Step{timed(5, 5, 4)}, api.OK},
		{"with timed Offset Every", []api.Step{timed(5, 5, 5)}, api.ErrStep},
		{"with the least Offset", []api.Step{timed(5, 5, math.MinInt)}, api.ErrStep},
		{"with the greatest Offset", []api.Step{timed(5, 5, math.MaxInt)}, api.ErrStep},
		{"with a last step that is not valid", append(steps(), loose(0, 1)), api.ErrStep},
		{"with a first step that is not valid", append([]api.Step{timed(5, 6, 0)}, steps()...), api.ErrStep},
	} {
		want(t, "Check "+x.what, chain.Check(x.l), x.want)
		if x.want != api.OK {
			want(t, "Bound "+x.what, boundOf(x.l), results(0, 0, x.want))
		}
	}
}

// P5.1: Bound of one step, of steps of both sorts, and of the greatest.
func TestBound(t *testing.T) {
	for _, x := range []struct {
		l             []api.Step
		age, reaction int
	}{
		{steps(), 22, 26},
		{[]api.Step{loose(10, 5), loose(20, 9)}, 23, 42},
		{steps()[:1], 3, 12},
		{[]api.Step{least()}, 1, 1},
		{[]api.Step{greatest()}, 100000, 199999},
		{slices.Repeat([]api.Step{greatest()}, 10), 1000000 + 9*99999, 1999990},
		{slices.Repeat([]api.Step{least()}, 10), 10, 10},
		{mixed(), 3 + 9 + 20 + 3 + 5, 3 + 9 + 20 + 3 + 5 + 4},
		{long(), 1 + 72 + 1, 1 + 72 + 1 + 136},
	} {
		want(t, "Bound", boundOf(x.l), results(x.age, x.reaction, api.OK))
	}
	r := rand.New(rand.NewSource(1))
	for range 300 {
		l := append(randomLoose(r, r.Intn(4)), randomTimed(r, 1+r.Intn(4))...)
		r.Shuffle(len(l), func(i, j int) { l[i], l[j] = l[j], l[i] })
		age, reaction := bounds(l)
		want(t, "Bound", boundOf(l), results(age, reaction, api.OK))
	}
}

// everies returns a timed chain with these Every.
func everies(all ...int) []api.Step {
	var l []api.Step
	for _, every := range all {
		l = append(l, timed(every, 1, 0))
	}
	return l
}

// P5.1: Round up to MaxRound, of more than that, and of more than a number may be.
func TestRound(t *testing.T) {
	for _, x := range []struct {
		l    []api.Step
		want int
	}{
		{steps(), 20},
		{everies(1), 1},
		{everies(1, 1, 1), 1},
		{everies(7), 7},
		{everies(4, 6), 12},
		{everies(6, 4, 10, 15), 60},
		{everies(10000), 10000},
		{everies(16, 625), 10000},
		{everies(625, 10000, 16, 8, 5), 10000},
		{everies(99, 101), 9999},
		{slices.Repeat(everies(10000), 10), 10000},
		{slices.Repeat(everies(8192), 10), 8192},
	} {
		want(t, "Round", roundOf(x.l), results(x.want, api.OK))
	}
	for _, l := range [][]api.Step{
		long(), everies(10001), everies(73, 137), everies(100, 101), everies(100000), everies(2, 5001), everies(32, 625), everies(3, 10000),
		everies(99991, 99989, 99971, 99961, 99929, 99923, 99907, 99901, 99881, 99877),
		everies(65536), everies(65536, 65535, 65534, 65533, 65532, 65531, 65530, 65529, 65528, 65527),
	} {
		want(t, "Round", roundOf(l), results(0, api.ErrRound))
	}
	randomly(t, 500, func(r *rand.Rand, l []api.Step) {
		want(t, "Round", roundOf(l), results(round(l), api.OK))
	})
}

// P5.1, P5.2, P5.3: the errors of chains, and which comes first.
func TestChainErrors(t *testing.T) {
	spoiled := func(l []api.Step) []api.Step { return append(slices.Clone(l), loose(0, 0)) }
	slow := append(long(), loose(5, 5))
	for _, x := range []struct {
		what string
		l    []api.Step
		e    api.Errno
	}{
		{"no chain", nil, api.ErrStep},
		{"a chain that is not valid", spoiled(steps()), api.ErrStep},
		{"a loose chain that is not valid", spoiled(pair()), api.ErrStep},
		{"a chain with a long round that is not valid", spoiled(long()), api.ErrStep},
		{"too many steps with a long round", slices.Repeat(slow, 4), api.ErrStep},
		{"a loose chain", pair(), api.ErrTimed},
		{"a mixed chain", mixed(), api.ErrTimed},
		{"a mixed chain that begins loose", append(pair(), steps()...), api.ErrTimed},
		{"a mixed chain that ends loose", append(steps(), pair()...), api.ErrTimed},
		{"a mixed chain with a long round", slow, api.ErrTimed},
		{"a chain with a long round", long(), api.ErrRound},
	} {
		want(t, "Round of "+x.what, roundOf(x.l), results(0, x.e))
		want(t, "Age of "+x.what, ageOf(x.l), results(chain.Trace{}, x.e))
		want(t, "Least of "+x.what, leastOf(x.l), results(0, x.e))
		want(t, "Reaction of "+x.what, reactionOf(x.l), results(0, x.e))
		want(t, "Lost of "+x.what, lostOf(x.l), results(0, x.e))
		want(t, "Doubled of "+x.what, doubledOf(x.l), results(0, x.e))
		for _, step := range []int{0, -1, 99} {
			want(t, "Shift of "+x.what, shiftOf(x.l, step), results(0, 0, x.e))
		}
	}
}

// P5.1: FromFrames of the example, in any order, and of the same frame again.
func TestFromFrames(t *testing.T) {
	a, b, c := loose(10, 5), loose(15, 10), loose(20, 9)
	for _, x := range []struct {
		which []int
		want  []api.Step
	}{
		{[]int{0, 2}, []api.Step{a, c}},
		{[]int{1}, []api.Step{b}},
		{[]int{2, 1, 0}, []api.Step{c, b, a}},
		{[]int{1, 1, 0, 1}, []api.Step{b, b, a, b}},
		{[]int{2, 2, 2, 2, 2, 2, 2, 2, 2, 0}, []api.Step{c, c, c, c, c, c, c, c, c, a}},
	} {
		want(t, "FromFrames", fromFramesOf(frames(), x.which...), results(x.want, api.OK))
	}
	r := rand.New(rand.NewSource(2))
	for range 500 {
		l := randomFrames(r, 1+r.Intn(5))
		var which []int
		var should []api.Step
		e := api.OK
		for range 1 + r.Intn(api.MaxSteps) {
			which = append(which, r.Intn(len(l)))
		}
		for _, frame := range which {
			response, over := bus.Response(l, frame)
			should = append(should, loose(l[frame].Every, response))
			e = max(e, over)
		}
		if e != api.OK {
			should = nil
		}
		want(t, "FromFrames", fromFramesOf(l, which...), results(should, e))
	}
}

// P5.1: FromFrames of frames that have no response, or just one that a step may have.
func TestFromFramesOver(t *testing.T) {
	slow := func(jitter int) []api.Frame {
		return []api.Frame{{Size: 1000, Every: 100000, Jitter: jitter, Due: 1}}
	}
	want(t, "FromFrames of the greatest response", fromFramesOf(slow(99000), 0), results([]api.Step{greatest()}, api.OK))
	want(t, "FromFrames of a greater response", fromFramesOf(slow(99001), 0), results([]api.Step{}, api.ErrOver))
	n, e := bus.Response(slow(99001), 0)
	want(t, "the greater response", results(n, e), results(100001, api.OK))
	full := append(frames(), api.Frame{Size: 9, Every: 10, Due: 1, Rank: 4})
	want(t, "FromFrames beside a frame without a response", fromFramesOf(full, 0, 1), results([]api.Step{loose(10, 10), loose(15, 17)}, api.OK))
	for _, which := range [][]int{{3}, {3, 0}, {0, 3}, {0, 1, 3, 3}, {3, 3}} {
		want(t, "FromFrames of a frame without a response", fromFramesOf(full, which...), results([]api.Step{}, api.ErrOver))
	}
}

// P5.1: the errors of FromFrames, and which comes first.
func TestFromFramesErrors(t *testing.T) {
	bad := append(frames(), api.Frame{Rank: 9})
	full := append(frames(), api.Frame{Size: 9, Every: 10, Due: 1, Rank: 4})
	for _, x := range []struct {
		what   string
		frames []api.Frame
		which  []int
		e      api.Errno
	}{
		{"bad frames", bad, []int{0}, api.ErrFrame},
		{"bad frames and no numbers", bad, nil, api.ErrFrame},
		{"bad frames and a bad number", bad, []int{-1}, api.ErrFrame},
		{"frames of the same rank", append(frames(), frames()[0]), []int{0}, api.ErrFrame},
		{"too many frames", make([]api.Frame, api.MaxFrames+1), make([]int, 11), api.ErrFrame},
		{"no frames and no numbers", nil, nil, api.ErrArg},
		{"no frames", nil, []int{0}, api.ErrArg},
		{"no numbers", frames(), nil, api.ErrArg},
		{"too many numbers", frames(), make([]int, api.MaxSteps+1), api.ErrArg},
		{"a number below all", frames(), []int{0, -1}, api.ErrArg},
		{"a number beyond all", frames(), []int{3, 0}, api.ErrArg},
		{"the least number", frames(), []int{math.MinInt}, api.ErrArg},
		{"the greatest number", frames(), []int{math.MaxInt}, api.ErrArg},
		{"a bad number behind a frame without a response", full, []int{3, 4}, api.ErrArg},
		{"too many numbers of a frame without a response", full, slices.Repeat([]int{3}, 11), api.ErrArg},
	} {
		want(t, "FromFrames of "+x.what, fromFramesOf(x.frames, x.which...), results([]api.Step{}, x.e))
	}
	want(t, "the number of the most numbers", len(fromFramesOf(frames(), make([]int, api.MaxSteps)...)[0].([]api.Step)), 10)
}
