package bus_test

import (
	"fmt"
	"math"
	"math/rand"
	"slices"
	"testing"

	"ignition/api"
	"ignition/bus"
)

// alone returns a slotted bus with so many slots, on which each of these messages has a sender of its own.
func alone(slots, cycles int, every ...int) api.Slotted {
	s := api.Slotted{Slots: slots, Cycles: cycles}
	for i, n := range every {
		s.Messages = append(s.Messages, api.Message{Sender: i, Every: n})
	}
	return s
}

// together returns a slotted bus with so many slots, on which all messages have one sender.
func together(slots, cycles int, every ...int) api.Slotted {
	s := alone(slots, cycles, every...)
	for i := range s.Messages {
		s.Messages[i].Sender = 7
	}
	return s
}

// P4.3: the examples.
func TestSlotsExample(t *testing.T) {
	s := slotted()
	want(t, "Need", needOf(s), results(3, api.OK))
	want(t, "Schedule", scheduleOf(s), results([]api.Slot{}, api.ErrSlots))
	s.Messages = s.Messages[:3]
	want(t, "Need of three", needOf(s), results(2, api.OK))
	want(t, "Schedule of three", scheduleOf(s), results([]api.Slot{{Slot: 0}, {Slot: 1}, {Slot: 0, Base: 1}}, api.OK))
	want(t, "CheckSlots", bus.CheckSlots(s, []api.Slot{{Slot: 0}, {Slot: 0, Base: 1}, {Slot: 1}}), api.ErrSlots)
	want(t, "CheckSlots", bus.CheckSlots(s, []api.Slot{{Slot: 0}, {Slot: 1}, {Slot: 0, Base: 1}}), api.OK)
}

// P4.3: a slotted bus is valid up to its limits, and not beyond them; ErrSlot comes first.
func TestSlottedIsValid(t *testing.T) {
	for _, x := range []struct {
		what string
		s    api.Slotted
		need int
		e    api.Errno
	}{
		{"without messages", alone(1, 1), 0, api.OK},
		{"with the most slots and cycles", alone(30, 64, 64), 1, api.OK},
		{"with the most messages", alone(30, 1, slices.Repeat([]int{1}, 60)...), 60, api.OK},
		{"with one message more", together(30, 64, slices.Repeat([]int{64}, 61)...), 0, api.ErrSlot},
		{"with no slots", alone(0, 1), 0, api.ErrSlot},
		{"with 31 slots", alone(31, 1), 0, api.ErrSlot},
		{"with the least slots", alone(math.MinInt, 1), 0, api.ErrSlot},
		{"with the greatest slots", alone(math.MaxInt, 1), 0, api.ErrSlot},
		{"with no cycles", alone(1, 0), 0, api.ErrSlot},
		{"with 128 cycles", alone(1, 128), 0, api.ErrSlot},
		{"with 65 cycles", alone(1, 65), 0, api.ErrSlot},
		{"with 3 cycles", alone(1, 3), 0, api.ErrSlot},
		{"with 48 cycles", alone(1, 48), 0, api.ErrSlot},
		{"with -1 cycles", alone(1, -1), 0, api.ErrSlot},
		{"with the least cycles", alone(1, math.MinInt), 0, api.ErrSlot},
		{"with the greatest cycles", alone(1, math.MaxInt), 0, api.ErrSlot},
		{"with every 0", alone(1, 4, 1, 0), 0, api.ErrSlot},
		{"with every -1", alone(1, 4, 1, -1), 0, api.ErrSlot},
		{"with every 3", alone(1, 4, 1, 3), 0, api.ErrSlot},
		{"with every 4 of 4", alone(1, 4, 1, 4), 2, api.OK},
		{"with every 8 of 4", alone(1, 4, 1, 8), 0, api.ErrSlot},
		{"with every least", alone(1, 4, math.MinInt), 0, api.ErrSlot},
		{"with every greatest", alone(1, 4, math.MaxInt), 0, api.ErrSlot},
		{"with the sender 1000", api.Slotted{Slots: 1, Cycles: 1, Messages: []api.Message{{Sender: 1000, Every: 1}}}, 1, api.OK},
		{"with the sender 1001", api.Slotted{Slots: 1, Cycles: 1, Messages: []api.Message{{Sender: 1001, Every: 1}}}, 0, api.ErrSlot},
		{"with the sender -1", api.Slotted{Slots: 1, Cycles: 1, Messages: []api.Message{{Sender: -1, Every: 1}}}, 0, api.ErrSlot},
		{"with the least sender", api.Slotted{Slots: 1, Cycles: 1, Messages: []api.Message{{Sender: math.MinInt, Every: 1}}}, 0, api.ErrSlot},
	} {
		want(t, "Need "+x.what, needOf(x.s), results(x.need, x.e))
		if x.e != api.OK {
			want(t, "Schedule "+x.what, scheduleOf(x.s), results([]api.Slot{}, x.e))
			want(t, "CheckSlots "+x.what, bus.CheckSlots(x.s, []api.Slot{{Slot: -1}}), x.e)
		} else if x.need > x.s.Slots {
			want(t, "Schedule "+x.what, scheduleOf(x.s), results([]api.Slot{}, api.ErrSlots))
		}
	}
	want(t, "Schedule without messages", scheduleOf(alone(1, 1)), results([]api.Slot{}, api.OK))
	want(t, "CheckSlots without messages", bus.CheckSlots(alone(1, 1), nil), api.OK)
}

// P4.3: CheckSlots accepts what lies within the bounds and does not clash; ErrArg comes before ErrSlots.
func TestCheckSlots(t *testing.T) {
	s := together(2, 8, 2, 4, 8)
	for _, x := range []struct {
		what string
		l    []api.Slot
		want api.Errno
	}{
		{"with the greatest slots and bases", []api.Slot{{Slot: 1, Base: 1}, {Slot: 0, Base: 3}, {Slot: 0, Base: 6}}, api.OK},
		{"all in one slot", []api.Slot{{Base: 1}, {Base: 2}, {Base: 4}}, api.OK},
		{"the last one between the others", []api.Slot{{Base: 0}, {Base: 1}, {Base: 7}}, api.OK},
		{"the same cycles", []api.Slot{{Base: 1}, {Base: 3}, {Base: 4}}, api.ErrSlots},
		{"the same cycle later on", []api.Slot{{Base: 1}, {Base: 2}, {Base: 6}}, api.ErrSlots},
		{"the same cycles of another slot", []api.Slot{{Base: 1}, {Slot: 1, Base: 3}, {Base: 4}}, api.OK},
		{"one too few", []api.Slot{{Base: 1}, {Base: 2}}, api.ErrArg},
		{"one too many", []api.Slot{{Base: 1}, {Base: 2}, {Base: 4}, {}}, api.ErrArg},
		{"none", nil, api.ErrArg},
		{"slot 2 of 2", []api.Slot{{Base: 1}, {Base: 2}, {Slot: 2, Base: 4}}, api.ErrArg},
		{"slot -1", []api.Slot{{Slot: -1}, {Base: 2}, {Base: 4}}, api.ErrArg},
		{"base 2 of every 2", []api.Slot{{Base: 2}, {Base: 1}, {Base: 3}}, api.ErrArg},
		{"base 8 of every 8", []api.Slot{{Base: 0}, {Base: 1}, {Base: 8}}, api.ErrArg},
		{"base -1", []api.Slot{{Base: 0}, {Base: -1}, {Base: 3}}, api.ErrArg},
		{"a clash before a bad slot", []api.Slot{{}, {}, {Slot: 2}}, api.ErrArg},
		{"the least numbers", []api.Slot{{Slot: math.MinInt}, {Base: math.MinInt}, {}}, api.ErrArg},
		{"the greatest numbers", []api.Slot{{Base: 1}, {Base: 2}, {Slot: math.MaxInt, Base: math.MaxInt}}, api.ErrArg},
	} {
		want(t, "CheckSlots: "+x.what, bus.CheckSlots(s, x.l), x.want)
	}
	s = alone(2, 8, 8, 8, 8)
	want(t, "CheckSlots of several senders in a slot", bus.CheckSlots(s, []api.Slot{{}, {Slot: 1}, {Base: 1}}), api.ErrSlots)
	s.Messages[2].Sender = 0
	want(t, "CheckSlots of one sender in a slot", bus.CheckSlots(s, []api.Slot{{}, {Slot: 1}, {Base: 1}}), api.OK)
	want(t, "CheckSlots in the last cycle", bus.CheckSlots(together(1, 64, 64, 64), []api.Slot{{Base: 63}, {Base: 63}}), api.ErrSlots)
	want(t, "CheckSlots in the last two cycles", bus.CheckSlots(together(1, 64, 64, 64), []api.Slot{{Base: 63}, {Base: 62}}), api.OK)
}

// accepted is the plain definition of what CheckSlots accepts, for slots and bases within their bounds.
func accepted(s api.Slotted, l []api.Slot) bool {
	sent := map[[2]int]bool{}
	for i, x := range l {
		for k, y := range l[:i] {
			if x.Slot == y.Slot && s.Messages[i].Sender != s.Messages[k].Sender {
				return false
			}
		}
		for c := x.Base; c < s.Cycles; c += s.Messages[i].Every {
			if sent[[2]int{x.Slot, c}] {
				return false
			}
			sent[[2]int{x.Slot, c}] = true
		}
	}
	return true
}

// firstSchedule is the plain definition of the first schedule, among all that begin so; nil if there is none.
func firstSchedule(s api.Slotted, begin []api.Slot) []api.Slot {
	if !accepted(s, begin) {
		return nil
	}
	if len(begin) == len(s.Messages) {
		return append([]api.Slot{}, begin...)
	}
	for slot := range s.Slots {
		for base := range s.Messages[len(begin)].Every {
			if l := firstSchedule(s, append(begin, api.Slot{Slot: slot, Base: base})); l != nil {
				return l
			}
		}
	}
	return nil
}

// least is the plain definition of the least number of slots with which there is a schedule.
func least(s api.Slotted) int {
	for s.Slots = 0; firstSchedule(s, nil) == nil; {
		s.Slots++
	}
	return s.Slots
}

// randomSlotted returns a valid slotted bus.
func randomSlotted(r *rand.Rand, slots, powers, messages, senders int) api.Slotted {
	s := api.Slotted{Slots: 1 + r.Intn(slots), Cycles: 1 << r.Intn(powers)}
	for range r.Intn(messages + 1) {
		every := 1
		for every < s.Cycles && r.Intn(4) > 0 {
			every *= 2
		}
		s.Messages = append(s.Messages, api.Message{Sender: r.Intn(senders), Every: every})
	}
	return s
}

// P4.3: CheckSlots is as defined.
func TestCheckSlotsRandom(t *testing.T) {
	r := rand.New(rand.NewSource(5))
	ok := 0
	for range 20000 {
		s := randomSlotted(r, 4, 5, 5, 3)
		var l []api.Slot
		for _, m := range s.Messages {
			l = append(l, api.Slot{Slot: r.Intn(s.Slots), Base: r.Intn(m.Every)})
		}
		should := api.ErrSlots
		if accepted(s, l) {
			should = api.OK
			ok++
		}
		want(t, fmt.Sprintf("CheckSlots of %v and %v", s, l), bus.CheckSlots(s, l), should)
	}
	if ok < 1000 {
		t.Errorf("only %d schedules are accepted", ok)
	}
}

// P4.3, P4.8: Schedule returns the first of all schedules that are accepted, and Need the least number of slots with one.
func TestScheduleRandom(t *testing.T) {
	r := rand.New(rand.NewSource(6))
	none := 0
	for range 3000 {
		s := randomSlotted(r, 3, 4, 5, 3)
		if r.Intn(2) == 0 {
			s = randomSlotted(r, 2, 4, 6, 2)
		}
		need := least(s)
		want(t, fmt.Sprintf("Need of %v", s), needOf(s), results(need, api.OK))
		should := api.OK
		if need > s.Slots {
			should = api.ErrSlots
			none++
		}
		want(t, fmt.Sprintf("Schedule of %v", s), scheduleOf(s), results(firstSchedule(s, nil), should))
	}
	if none < 300 {
		t.Errorf("only %d have no schedule", none)
	}
}

// P4.8: Schedule returns OK exactly if Need is at most Slots, and CheckSlots accepts its result, also with many messages.
func TestSchedulesOfMany(t *testing.T) {
	r := rand.New(rand.NewSource(7))
	ok := 0
	for range 1500 {
		s := randomSlotted(r, 30, 7, 60, 1+r.Intn(12))
		need, _ := bus.Need(s)
		l, e := bus.Schedule(s)
		if need > s.Slots {
			want(t, fmt.Sprintf("Schedule of %v", s), results(l, e), results([]api.Slot{}, api.ErrSlots))
			continue
		}
		ok++
		want(t, fmt.Sprintf("CheckSlots of the Schedule of %v", s), results(bus.CheckSlots(s, l), e), results(api.OK, api.OK))
		last := 0
		for _, x := range l {
			last = max(last, x.Slot+1)
		}
		if last < need {
			t.Errorf("the schedule of %v has %d slots, it needs %d", s, last, need)
		}
		s.Slots = need
		if s.Slots > 0 {
			l, e = bus.Schedule(s)
			want(t, fmt.Sprintf("CheckSlots of the Schedule of %v", s), results(bus.CheckSlots(s, l), e), results(api.OK, api.OK))
		}
	}
	if ok < 300 {
		t.Errorf("only %d have a schedule", ok)
	}
}

// P4.3: what comes first leaves room for what comes later.
func TestScheduleLeavesRoom(t *testing.T) {
	for _, x := range []struct {
		what string
		s    api.Slotted
		l    []api.Slot
	}{
		{"it goes next to the one before it", together(1, 4, 4, 4, 2), []api.Slot{{Base: 0}, {Base: 2}, {Base: 1}}},
		{"it goes into another slot", together(2, 2, 2, 2, 1), []api.Slot{{Slot: 0}, {Slot: 0, Base: 1}, {Slot: 1}}},
		{"a slot is left for another sender", api.Slotted{Slots: 2, Cycles: 4, Messages: []api.Message{{Sender: 1, Every: 4}, {Sender: 1, Every: 4}, {Sender: 2, Every: 1}, {Sender: 1, Every: 2}}}, []api.Slot{{}, {Base: 2}, {Slot: 1}, {Base: 1}}},
		{"there is room for all where they fall", together(3, 4, 4, 4, 2), []api.Slot{{Base: 0}, {Base: 1}, {Slot: 1}}},
	} {
		want(t, "Schedule: "+x.what, scheduleOf(x.s), results(x.l, api.OK))
	}
}
