package bus_test

import (
	"fmt"
	"math"
	"math/rand"
	"slices"
	"strings"
	"testing"

	"ignition/api"
	"ignition/bus"
)

// argument is a list of arguments for all functions.
type argument struct {
	frames   []api.Frame
	releases []api.Release
	offsets  []int
	slotted  api.Slotted
	slots    []api.Slot
	net      api.Net
	flow     api.Flow
	traffic  [][]int
	number   int
}

// first returns the traffic of the first flow.
func (a argument) first() []int {
	if len(a.traffic) == 0 {
		return nil
	}
	return a.traffic[0]
}

// call calls every function of the package, and returns all that they return.
func call(a argument) [][]any {
	return [][]any{
		results(bus.Check(a.frames)), playOf(a.frames, a.releases), keepsOf(a.frames, a.releases, a.offsets),
		responseOf(a.frames, a.number), responsesOf(a.frames), lateOf(a.frames), rankOf(a.frames),
		results(bus.CheckSlots(a.slotted, a.slots)), scheduleOf(a.slotted), needOf(a.slotted),
		results(bus.CheckNet(a.net)), delaysOf(a.net), conformsOf(a.flow, a.first()), sendOf(a.net, a.traffic),
	}
}

// numbers are of all sorts.
func numbers() []int {
	return []int{0, 1, 2, 3, 5, -1, 64, 65, 1000, 1001, 100000, 100001, 1000000, 1000001, math.MinInt, math.MaxInt}
}

// spoil changes something of the arguments to a number of any sort.
func spoil(r *rand.Rand, a *argument) {
	any := func() int { return numbers()[r.Intn(len(numbers()))] }
	switch r.Intn(9) {
	case 0:
		a.frames = append(a.frames, api.Frame{Size: any(), Every: any(), Due: any(), Jitter: any(), Rank: any()})
	case 1:
		a.releases = append(a.releases, api.Release{Frame: any(), At: any()})
	case 2:
		a.offsets = append(a.offsets, any())
	case 3:
		a.slotted.Slots, a.slotted.Cycles = any(), any()
	case 4:
		a.slotted.Messages = append(a.slotted.Messages, api.Message{Sender: any(), Every: any()})
	case 5:
		a.slots = append(a.slots, api.Slot{Slot: any(), Base: any()})
	case 6:
		a.net.Gates = append(a.net.Gates, api.Gate{Rate: any(), Delay: any()})
	case 7:
		a.net.Flows = append(a.net.Flows, api.Flow{Burst: any(), Rate: any(), Path: []int{any(), any()}})
	case 8:
		a.traffic = append(a.traffic, []int{any()}, nil)
	}
}

// arguments returns arguments for all functions, many of them bad ones.
func arguments() []argument {
	r := rand.New(rand.NewSource(13))
	var all []argument
	for range 1500 {
		a := argument{
			frames: randomFrames(r, r.Intn(5), shapes()[r.Intn(len(shapes()))]), slotted: randomSlotted(r, 4, 4, 6, 3),
			net: randomNet(r, 5, r.Intn(3) == 0), flow: api.Flow{Burst: among(r, 0, 9), Rate: among(r, -1, 4)},
			number: numbers()[r.Intn(len(numbers()))],
		}
		a.offsets, a.releases, _ = patterns(r, a.frames, 5)
		a.slots, _ = bus.Schedule(a.slotted)
		for _, f := range a.net.Flows {
			a.traffic = append(a.traffic, conforming(r, f))
		}
		for range r.Intn(6) {
			spoil(r, &a)
		}
		all = append(all, a)
	}
	return all
}

// P0.1: every function ends, for all arguments; results depend on arguments alone, which are not changed.
// With the rule R2: with an error every other result is its zero value.
func TestAllArguments(t *testing.T) {
	good, bad := map[int]int{}, map[int]int{}
	for _, a := range arguments() {
		before := fmt.Sprint(a)
		first := call(a)
		want(t, "the second results", call(a), first)
		if fmt.Sprint(a) != before {
			t.Fatalf("the arguments %s became %v", before, a)
		}
		for i, l := range first {
			if l[len(l)-1] == api.OK {
				good[i]++
				continue
			}
			bad[i]++
			for _, x := range l[:len(l)-1] {
				if zero := strings.Trim(fmt.Sprint(x), "[] 0"); zero != "" && zero != "false" {
					t.Fatalf("function %d returns %v", i, l)
				}
			}
		}
	}
	for i := range 14 {
		if good[i] < 20 || bad[i] < 20 {
			t.Errorf("function %d: %d times without an error, %d times with one", i, good[i], bad[i])
		}
	}
}

// accepting returns arguments that every function accepts, with spare capacity in every list.
func accepting() argument {
	s := slotted()
	s.Slots = 3
	s.Messages = spare(s.Messages)
	n := net()
	n.Gates, n.Flows = spare(n.Gates), spare(n.Flows)
	for i := range n.Flows {
		n.Flows[i].Path = spare(n.Flows[i].Path)
	}
	return argument{
		frames: spare(frames()), releases: spare(exampleReleases()), offsets: spare([]int{1, 1, 0}),
		slotted: s, slots: spare([]api.Slot{{}, {Slot: 1}, {Base: 1}, {Slot: 2}}),
		net: n, flow: n.Flows[0], traffic: spare([][]int{spare([]int{20, 5, 5}), spare([]int{15, 0, 5})}), number: 1,
	}
}

// spare returns a copy with room for more.
func spare[T any](l []T) []T { return append(make([]T, 0, len(l)+5), l...) }

// behind returns what stands in the room behind a list.
func behind[T any](l []T) string { return fmt.Sprint(l[len(l):cap(l)]) }

// The rule R4: what stands behind the ends of the arguments' lists stays, and so does what stands in them.
func TestSpareCapacity(t *testing.T) {
	look := func(a argument) []string {
		l := []string{fmt.Sprint(a), behind(a.frames), behind(a.releases), behind(a.offsets), behind(a.slotted.Messages), behind(a.slots), behind(a.net.Gates), behind(a.net.Flows), behind(a.traffic)}
		for i, f := range a.net.Flows {
			l = append(l, behind(f.Path), behind(a.traffic[i]))
		}
		return l
	}
	a := accepting()
	before := look(a)
	call(a)
	want(t, "what stands in the arguments and behind them", look(a), before)
}

// The rule R4: what is done with results shows nowhere else, neither in arguments nor in other results.
func TestResultsAreNew(t *testing.T) {
	a := accepting()
	before, first := fmt.Sprint(a), fmt.Sprint(call(a))
	for _, l := range call(a) {
		for _, x := range l {
			switch x := x.(type) {
			case []int:
				for i := range x {
					x[i] = -7
				}
				_ = append(x, -8)
			case []api.Slot:
				for i := range x {
					x[i] = api.Slot{Slot: -7, Base: -7}
				}
			}
		}
	}
	want(t, "the arguments", a, before)
	want(t, "the results", call(a), first)
	waits, delays, _ := bus.Delays(a.net)
	waits = append(waits[:1], 9, 9, 9)
	want(t, "the delays beside the waits", results(waits, delays), results([]int{1, 9, 9, 9}, []int{8, 5}))
}

// The rule R3: nil and empty lists are the same.
func TestEmptyLists(t *testing.T) {
	some := argument{
		frames: []api.Frame{}, releases: []api.Release{}, offsets: []int{},
		slotted: api.Slotted{Slots: 1, Cycles: 1, Messages: []api.Message{}}, slots: []api.Slot{},
		net: api.Net{Gates: []api.Gate{}, Flows: []api.Flow{}}, flow: api.Flow{Burst: 1, Path: []int{}}, traffic: [][]int{},
	}
	want(t, "the results", call(some), call(argument{slotted: api.Slotted{Slots: 1, Cycles: 1}, flow: api.Flow{Burst: 1}}))
	n := net()
	want(t, "Send", sendOf(n, [][]int{{}, nil}), sendOf(n, [][]int{nil, {}}))
	want(t, "CheckNet of no path", bus.CheckNet(api.Net{Gates: gates(1), Flows: []api.Flow{{Burst: 1, Path: []int{}}}}), api.ErrNet)
	want(t, "Conforms", conformsOf(n.Flows[0], []int{}), results(true, api.OK))
	want(t, "CheckSlots", bus.CheckSlots(slotted(), slices.Clone([]api.Slot{})), api.ErrArg)
}
