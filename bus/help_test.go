package bus_test

import (
	"fmt"
	"math"
	"math/rand"
	"slices"
	"testing"

	"ignition/api"
	"ignition/bus"
)

// The tests compare the package with plain definitions, which follow the document step by step.

// frames are those of the chapter's examples.
func frames() []api.Frame {
	return []api.Frame{
		{Size: 2, Every: 10, Due: 6, Rank: 1},
		{Size: 3, Every: 15, Jitter: 2, Due: 12, Rank: 2},
		{Size: 4, Every: 20, Due: 20, Rank: 3},
	}
}

// slotted is the slotted bus of the chapter's examples.
func slotted() api.Slotted {
	return api.Slotted{Slots: 2, Cycles: 4, Messages: []api.Message{{Sender: 1, Every: 2}, {Sender: 2, Every: 4}, {Sender: 1, Every: 2}, {Sender: 2, Every: 1}}}
}

// net is the net of the chapter's examples.
func net() api.Net {
	return api.Net{
		Gates: []api.Gate{{Rate: 10, Delay: 2}, {Rate: 10, Delay: 2}},
		Flows: []api.Flow{{Burst: 20, Rate: 5, Path: []int{0, 1}}, {Burst: 15, Rate: 5, Path: []int{1}}},
	}
}

// many returns so many frames that take little of the bus.
func many(n int) []api.Frame {
	var l []api.Frame
	for i := range n {
		l = append(l, api.Frame{Size: 1, Every: 1000, Due: 1000, Rank: i})
	}
	return l
}

// copied returns a copy of a net that shares no memory with it.
func copied(n api.Net) api.Net {
	n = api.Net{Gates: slices.Clone(n.Gates), Flows: slices.Clone(n.Flows)}
	for i := range n.Flows {
		n.Flows[i].Path = slices.Clone(n.Flows[i].Path)
	}
	return n
}

// among returns a number from low to high, often one of the two.
func among(r *rand.Rand, low, high int) int {
	switch r.Intn(8) {
	case 0:
		return low
	case 1:
		return high
	}
	return low + r.Intn(high-low+1)
}

// shape says how great the numbers of random frames are.
type shape struct {
	size, every, jitter int
}

// randomFrames returns valid frames; many of them fill the bus nearly, some of them more than that.
func randomFrames(r *rand.Rand, n int, s shape) []api.Frame {
	var l []api.Frame
	for _, rank := range r.Perm(n + 3)[:n] {
		size := among(r, 1, s.size)
		l = append(l, api.Frame{Size: size, Every: among(r, min(size*2, s.every), s.every), Jitter: among(r, 0, s.jitter), Due: 1 + r.Intn(3*s.every), Rank: rank})
	}
	return l
}

// shapes are of all sorts.
func shapes() []shape {
	return []shape{{1, 6, 0}, {3, 20, 5}, {3, 20, 50}, {9, 30, 0}, {30, 90, 20}}
}

// randomly calls what looks at some random frames many times.
func randomly(t *testing.T, times int, look func(r *rand.Rand, l []api.Frame)) {
	t.Helper()
	r := rand.New(rand.NewSource(4))
	for range times {
		l := randomFrames(r, r.Intn(6), shapes()[r.Intn(len(shapes()))])
		if e := bus.Check(l); e != api.OK {
			t.Fatalf("Check of %v: %d", l, e)
		}
		look(r, l)
		if t.Failed() {
			t.Fatalf("with the frames %v", l)
		}
	}
}

// sum is the plain definition of what frames need: for each of them, as often as it is said.
func sum(l []api.Frame, often func(f api.Frame) int) int {
	n := 0
	for _, f := range l {
		n += often(f) * f.Size
	}
	return n
}

// settle replaces a number by the right side until it does not change any more; -1 if it becomes too great.
func settle(n int, right func(n int) int) int {
	for n <= api.MaxTime && right(n) != n {
		n = right(n)
	}
	if n > api.MaxTime {
		return -1
	}
	return n
}

// up rounds a quotient up.
func up(a, b int) int { return int(math.Ceil(float64(a) / float64(b))) }

// response is the plain definition of the response of a frame: -1 if it has none.
func response(l []api.Frame, i int) int {
	f, b := l[i], 0
	var h []api.Frame
	for k, other := range l {
		if other.Rank < f.Rank {
			h = append(h, other)
		} else if k != i {
			b = max(b, other.Size-1)
		}
	}
	t := settle(1, func(t int) int {
		return b + sum(append(slices.Clone(h), f), func(g api.Frame) int { return up(t+g.Jitter, g.Every) })
	})
	if t < 0 {
		return -1
	}
	most := math.MinInt
	for q := 0; q <= up(t+f.Jitter, f.Every)-1; q++ {
		begin := b + q*f.Size
		w := settle(begin, func(w int) int {
			return begin + sum(h, func(g api.Frame) int { return (w+g.Jitter)/g.Every + 1 })
		})
		if w < 0 {
			return -1
		}
		most = max(most, w+f.Size+f.Jitter-q*f.Every)
	}
	return most
}

// responses is the plain definition of the responses of all frames.
func responses(l []api.Frame) []int {
	var all []int
	for i := range l {
		all = append(all, response(l, i))
	}
	return all
}

// isLate is the plain definition of a frame that can be late.
func isLate(l []api.Frame, i int) bool {
	n := response(l, i)
	return n < 0 || n > l[i].Due
}

// late is the plain definition of the frames that can be late.
func late(l []api.Frame) []int {
	var all []int
	for i := range l {
		if isLate(l, i) {
			all = append(all, i)
		}
	}
	return all
}

// ranked returns the frames with other ranks.
func ranked(l []api.Frame, ranks []int) []api.Frame {
	l = slices.Clone(l)
	for i := range l {
		l[i].Rank = ranks[i]
	}
	return l
}

// plays is the plain definition of a play, tick by tick.
func plays(l []api.Frame, releases []api.Release) []int {
	ends := make([]int, len(releases))
	sent, free := 0, 0
	for t := 0; sent < len(releases); t++ {
		best := -1
		for i, r := range releases {
			if t < free || ends[i] > 0 || r.At > t {
				continue
			}
			if best < 0 || l[r.Frame].Rank < l[releases[best].Frame].Rank || r.Frame == releases[best].Frame && r.At < releases[best].At {
				best = i
			}
		}
		if best >= 0 {
			free = t + l[releases[best].Frame].Size
			ends[best] = free
			sent++
		}
	}
	return ends
}

// want reports a result that is not what it should be; nil and empty lists are the same.
func want(t *testing.T, what string, got, should any) {
	t.Helper()
	if g, s := fmt.Sprint(got), fmt.Sprint(should); g != s {
		t.Errorf("%s is %s; it should be %s", what, g, s)
	}
}

// results makes one value of several results.
func results(l ...any) []any { return l }

// The functions below make one value of what the functions of the package return.

func playOf(l []api.Frame, releases []api.Release) []any {
	ends, e := bus.Play(l, releases)
	return results(ends, e)
}

func keepsOf(l []api.Frame, releases []api.Release, offsets []int) []any {
	is, e := bus.Keeps(l, releases, offsets)
	return results(is, e)
}

func responseOf(l []api.Frame, frame int) []any {
	n, e := bus.Response(l, frame)
	return results(n, e)
}

func responsesOf(l []api.Frame) []any {
	all, e := bus.Responses(l)
	return results(all, e)
}

func lateOf(l []api.Frame) []any {
	all, e := bus.Late(l)
	return results(all, e)
}

func rankOf(l []api.Frame) []any {
	ranks, e := bus.Rank(l)
	return results(ranks, e)
}

func scheduleOf(s api.Slotted) []any {
	l, e := bus.Schedule(s)
	return results(l, e)
}

func needOf(s api.Slotted) []any {
	n, e := bus.Need(s)
	return results(n, e)
}

func delaysOf(n api.Net) []any {
	waits, delays, e := bus.Delays(n)
	return results(waits, delays, e)
}

func conformsOf(f api.Flow, traffic []int) []any {
	is, e := bus.Conforms(f, traffic)
	return results(is, e)
}

func sendOf(n api.Net, traffic [][]int) []any {
	longest, e := bus.Send(n, traffic)
	return results(longest, e)
}
