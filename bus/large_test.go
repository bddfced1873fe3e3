package bus_test

import (
	"math/rand"
	"slices"
	"testing"

	"ignition/api"
	"ignition/bus"
)

// crowded returns MaxFrames frames that keep the bus busy for very long.
func crowded(r *rand.Rand) []api.Frame {
	var l []api.Frame
	for i := range api.MaxFrames {
		l = append(l, api.Frame{Size: 1, Every: 41 + r.Intn(3), Jitter: r.Intn(1000), Due: api.MaxPeriod, Rank: i})
	}
	return l
}

// P4.2: frames with a very long busy time, also those with many releases in it, are as defined.
func TestLongBusyTimes(t *testing.T) {
	for _, l := range [][]api.Frame{
		{{Size: 1, Every: 2, Jitter: 100000, Due: 1}, {Size: 1, Every: 3, Jitter: 1000, Due: 1, Rank: 1}, {Size: 1, Every: 7, Due: 1, Rank: 2}},
		{{Size: 1, Every: 2, Due: 1, Rank: 9}, {Size: 999, Every: 2000, Due: 1, Rank: 1}},
		{{Size: 1, Every: 2, Due: 1}, {Size: 1, Every: 2, Due: 1, Rank: 1}, {Size: 1, Every: 100000, Due: 1, Rank: 2}},
		{{Size: 1000, Every: 100000, Jitter: 100000, Due: 1}, {Size: 1, Every: 100000, Jitter: 99999, Due: 1, Rank: 1}},
	} {
		want(t, "Responses", responsesOf(l), results(responses(l), api.OK))
	}
}

// P4.2, P4.6: the most frames. P4.1: the most releases of them, in which P4.5 holds.
func TestMostFrames(t *testing.T) {
	r := rand.New(rand.NewSource(14))
	l := crowded(r)
	all, e := bus.Responses(l)
	want(t, "the error", e, api.OK)
	for _, i := range []int{0, 20, 39} {
		want(t, "a response", all[i], response(l, i))
	}
	ranks, e := bus.Rank(l)
	want(t, "the error", e, api.OK)
	want(t, "Late", lateOf(ranked(l, ranks)), results([]int{}, api.OK))
	offsets, releases, dues := patterns(r, l, 12)
	want(t, "Keeps", keepsOf(l, releases, offsets), results(true, api.OK))
	ends, e := bus.Play(l, releases)
	want(t, "the error", e, api.OK)
	for i, x := range releases {
		if ends[i]-dues[i] > all[x.Frame] {
			t.Errorf("the release %d ends at %d", i, ends[i])
		}
	}
	for i := range l {
		l[i].Every = 40
	}
	want(t, "Rank of a bus without rest", rankOf(l), results([]int{}, api.ErrRank))
	many := slices.Repeat([]api.Release{{Frame: 7, At: 9000}, {Frame: 3, At: 5}}, 250)
	want(t, "Play", playOf(l, many), results(plays(l, many), api.OK))
}

// P4.3: the most slots, cycles and messages.
func TestMostMessages(t *testing.T) {
	s := together(30, 64, slices.Concat(slices.Repeat([]int{64}, 30), slices.Repeat([]int{1, 2}, 15))...)
	need, e := bus.Need(s)
	want(t, "Need", results(need, e), results(15+8, api.OK)) // 15 of every cycle, and 30/64 + 15/2 of slots
	for _, slots := range []int{23, 30} {
		s.Slots = slots
		l, e := bus.Schedule(s)
		want(t, "the errors", results(e, bus.CheckSlots(s, l)), results(api.OK, api.OK))
	}
	s.Slots = 22
	want(t, "Schedule", scheduleOf(s), results([]api.Slot{}, api.ErrSlots))
	full := together(1, 64, slices.Concat(slices.Repeat([]int{64}, 56), []int{8})...)
	l, e := bus.Schedule(full)
	want(t, "the errors", results(e, bus.CheckSlots(full, l)), results(api.OK, api.OK))
	want(t, "the last slots", l[54:], []api.Slot{{Base: 61}, {Base: 62}, {Base: 7}})
}

// widest returns a net of the greatest size, with the greatest traffic.
func widest() (api.Net, [][]int) {
	n := api.Net{Gates: slices.Repeat([]api.Gate{{Rate: api.MaxRate, Delay: 7}}, api.MaxGates)}
	var traffic [][]int
	for i := range api.MaxFlows {
		f := api.Flow{Burst: api.MaxBurst, Rate: i * 10}
		for step := range api.MaxPath {
			f.Path = append(f.Path, i%22+step)
		}
		n.Flows = append(n.Flows, f)
		traffic = append(traffic, slices.Repeat([]int{api.MaxSend}, api.MaxList))
	}
	return n, traffic
}

// P4.4, P4.9: the greatest net with the greatest traffic, which conforms.
func TestGreatestNet(t *testing.T) {
	n, traffic := widest()
	got, bounds, e := bus.Delays(n)
	want(t, "Delays", results(got, bounds, e), results(waits(n), delays(n), api.OK))
	longest, e := bus.Send(n, traffic)
	want(t, "the error", e, api.OK)
	for i, f := range n.Flows {
		want(t, "Conforms", conformsOf(f, traffic[i]), results(true, api.OK))
		if longest[i] > bounds[i] || longest[i] < 56 {
			t.Errorf("the flow %d takes %d, the bound is %d", i, longest[i], bounds[i])
		}
	}
	for i := range n.Gates {
		n.Gates[i].Rate = 390
	}
	for i := range n.Flows {
		n.Flows[i].Rate = 0
	}
	_, e = bus.Send(n, traffic)
	want(t, "the error with slow gates", e, api.OK)
	n.Gates[20].Rate = 1
	want(t, "Send with a very slow gate", sendOf(n, traffic), results([]int{}, api.ErrOver))
}
