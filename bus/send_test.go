package bus_test

import (
	"fmt"
	"math"
	"math/rand"
	"slices"
	"testing"

	"ignition/api"
	"ignition/bus"
)

// single is a byte on its way: its flow, when it came, and how many gates are behind it.
type single struct {
	flow, born, passed int
}

// sends is the plain definition of Send, byte by byte; nil if one of them is late.
func sends(n api.Net, traffic [][]int) []int {
	comes := make([][]single, 2*api.MaxArrive)
	lines := make([][]single, len(n.Gates))
	longest := make([]int, len(n.Flows))
	left := 0
	for i, l := range traffic {
		longest[i] = -1
		for t, bytes := range l {
			comes[t] = append(comes[t], slices.Repeat([]single{{i, t, 0}}, bytes)...)
			left += bytes
		}
	}
	for t := 0; t <= api.MaxArrive; t++ {
		for i, f := range n.Flows {
			for _, b := range comes[t] {
				if b.flow == i && b.passed == len(f.Path) {
					longest[i] = max(longest[i], t-b.born)
					left--
				} else if b.flow == i {
					lines[f.Path[b.passed]] = append(lines[f.Path[b.passed]], b)
				}
			}
		}
		for g, gate := range n.Gates {
			for range min(gate.Rate, len(lines[g])) {
				b := lines[g][0]
				lines[g] = lines[g][1:]
				b.passed++
				comes[t+gate.Delay] = append(comes[t+gate.Delay], b)
			}
		}
	}
	if left > 0 {
		return nil
	}
	return longest
}

// randomTraffic returns traffic of a flow.
func randomTraffic(r *rand.Rand, most int) []int {
	var l []int
	for range r.Intn(8) {
		l = append(l, max(r.Intn(2*most)-most, 0))
	}
	return l
}

// conforming returns traffic that conforms to a flow, often as much as may be.
func conforming(r *rand.Rand, f api.Flow) []int {
	var l []int
	left := f.Burst
	for range r.Intn(30) {
		bytes := among(r, 0, left)
		l = append(l, bytes)
		left = min(left-bytes+f.Rate, f.Burst)
	}
	return l
}

// P4.4: Send is as defined, byte by byte.
func TestSendRandom(t *testing.T) {
	r := rand.New(rand.NewSource(11))
	ok := 0
	for range 1200 {
		n := randomNet(r, 5, false)
		if bus.CheckNet(n) != api.OK {
			continue
		}
		var traffic [][]int
		for range n.Flows {
			traffic = append(traffic, randomTraffic(r, 1+r.Intn(30)))
		}
		ok++
		want(t, fmt.Sprintf("Send of %v and %v", n, traffic), sendOf(n, traffic), results(sends(n, traffic), api.OK))
	}
	if ok < 300 {
		t.Errorf("only %d nets are right", ok)
	}
}

// P4.9: if all traffic conforms, no byte takes longer than Delays says.
func TestNoByteIsLater(t *testing.T) {
	r := rand.New(rand.NewSource(12))
	ok, reached := 0, 0
	for range 6000 {
		n := randomNet(r, 5, false)
		_, bounds, e := bus.Delays(n)
		if e != api.OK {
			continue
		}
		var traffic [][]int
		for _, f := range n.Flows {
			traffic = append(traffic, conforming(r, f))
			want(t, "Conforms", conformsOf(f, traffic[len(traffic)-1]), results(true, api.OK))
		}
		longest, e := bus.Send(n, traffic)
		want(t, "the error", e, api.OK)
		for i := range n.Flows {
			ok++
			if longest[i] > bounds[i] {
				t.Errorf("with the traffic %v the flow %d of %v takes %d; the bound is %d", traffic, i, n, longest[i], bounds[i])
			}
			if longest[i] == bounds[i] {
				reached++
			}
		}
	}
	if ok < 1000 || reached < 300 {
		t.Errorf("%d flows, %d of which take as long as may be", ok, reached)
	}
}

// P4.4: the errors of Send.
func TestSendErrors(t *testing.T) {
	for _, traffic := range [][][]int{
		nil, {nil}, {nil, nil, nil}, {{1}, {-1}}, {{1001}, {}}, {make([]int, 65), nil}, {{math.MinInt}, nil}, {nil, {math.MaxInt}},
	} {
		want(t, "Send", sendOf(net(), traffic), results([]int{}, api.ErrArg))
	}
	want(t, "Send without flows", sendOf(api.Net{}, nil), results([]int{}, api.OK))
	want(t, "Send without flows, of some traffic", sendOf(api.Net{}, [][]int{nil}), results([]int{}, api.ErrArg))
	want(t, "Send without bytes", sendOf(net(), [][]int{nil, {0, 0}}), results([]int{-1, -1}, api.OK))
	want(t, "Send of a byte", sendOf(net(), [][]int{nil, {0, 1}}), results([]int{-1, 2}, api.OK))
	want(t, "Send in the last tick", sendOf(net(), [][]int{append(make([]int, 63), 1), make([]int, 64)}), results([]int{4, -1}, api.OK))
}

// P4.4: what has come to the end in MaxArrive has come in time, and a tick later it has not.
func TestSendInTime(t *testing.T) {
	n := api.Net{Gates: []api.Gate{{Rate: 1, Delay: 1}}, Flows: []api.Flow{{Burst: 1, Path: []int{0}}}}
	traffic := slices.Repeat([]int{1000}, 10)
	want(t, "Send in MaxArrive", sendOf(n, [][]int{traffic}), results([]int{9991}, api.OK))
	want(t, "Send of one byte more", sendOf(n, [][]int{append(traffic, 1)}), results([]int{}, api.ErrOver))
	n.Gates[0].Delay = 2
	want(t, "Send a tick later", sendOf(n, [][]int{traffic}), results([]int{}, api.ErrOver))
	traffic[9]--
	want(t, "Send of one byte less", sendOf(n, [][]int{traffic}), results([]int{9991}, api.OK))
	n.Gates = slices.Repeat([]api.Gate{{Rate: 1000, Delay: 1000}}, 8)
	n.Flows[0].Path = []int{0, 1, 2, 3, 4, 5, 6, 7}
	want(t, "Send by way of slow gates", sendOf(n, [][]int{slices.Repeat([]int{1000}, 64)}), results([]int{8000}, api.OK))
	n.Gates[7] = api.Gate{Rate: 1, Delay: 1000}
	want(t, "Send with much in line", sendOf(n, [][]int{slices.Repeat([]int{1000}, 64)}), results([]int{}, api.ErrOver))
}

// P4.4: in a tick the bytes of flow 0 stand in line first, behind those that came before.
func TestSendLines(t *testing.T) {
	n := api.Net{
		Gates: []api.Gate{{Rate: 2, Delay: 1}},
		Flows: []api.Flow{{Burst: 1, Path: []int{0}}, {Burst: 1, Path: []int{0}}, {Burst: 1, Path: []int{0}}},
	}
	want(t, "Send at the same tick", sendOf(n, [][]int{{2}, {2}, {2}}), results([]int{1, 2, 3}, api.OK))
	want(t, "Send one after the other", sendOf(n, [][]int{{0, 2}, {3}, {2}}), results([]int{3, 2, 3}, api.OK))
	want(t, "Send in parts", sendOf(n, [][]int{{1}, {1}, {1}}), results([]int{1, 1, 2}, api.OK))
	// Flow 1 goes through a gate before, which is quicker than the way of flow 0: both come in the same tick.
	n.Gates = []api.Gate{{Rate: 2, Delay: 2}, {Rate: 2, Delay: 1}, {Rate: 1, Delay: 1}}
	n.Flows = []api.Flow{{Burst: 1, Path: []int{0, 2}}, {Burst: 1, Path: []int{1, 2}}}
	want(t, "Send by two ways", sendOf(n, [][]int{{2}, {0, 2}}), results([]int{4, 5}, api.OK))
	want(t, "Send by two ways, a tick sooner", sendOf(n, [][]int{{2}, {2}}), results([]int{5, 3}, api.OK))
}
