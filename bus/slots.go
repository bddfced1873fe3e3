package bus

import (
	"math/bits"
	"slices"

	"ignition/api"
)

// row is what is sent in a slot: its sender, and the cycles in which it sends, bit by bit.
type row struct {
	sender int
	cycles uint64
}

// isFree reports whether a sender can send in these cycles too.
func (r row) isFree(sender int, cycles uint64) bool {
	return r.cycles == 0 || r.sender == sender && r.cycles&cycles == 0
}

// with returns the row in which the sender sends in these cycles too.
func (r row) with(sender int, cycles uint64) row { return row{sender, r.cycles | cycles} }

// cyclesOf returns the cycles in which a message is sent, bit by bit.
func cyclesOf(s api.Slotted, every, base int) uint64 {
	var cycles uint64
	for c := base; c < s.Cycles; c += every {
		cycles |= 1 << c
	}
	return cycles
}

// clash reports whether messages in the same slot have several senders, or are sent in the same cycle.
func clash(s api.Slotted, l []api.Slot) bool {
	rows := make([]row, s.Slots)
	for i, m := range s.Messages {
		r, cycles := &rows[l[i].Slot], cyclesOf(s, m.Every, l[i].Base)
		if !r.isFree(m.Sender, cycles) {
			return true
		}
		*r = r.with(m.Sender, cycles)
	}
	return false
}

// schedule returns the first schedule of a slotted bus that has one.
func schedule(s api.Slotted) []api.Slot {
	rows := make([]row, s.Slots)
	var l []api.Slot
	for i := range s.Messages {
		l = append(l, place(s, rows, i))
	}
	return l
}

// place puts a message into the first slot and cycle with which all later ones can still be sent.
func place(s api.Slotted, rows []row, message int) api.Slot {
	m, rest := s.Messages[message], s.Messages[message+1:]
	for slot, before := range rows {
		for base := range m.Every {
			cycles := cyclesOf(s, m.Every, base)
			if !before.isFree(m.Sender, cycles) {
				continue
			}
			rows[slot] = before.with(m.Sender, cycles)
			if need(s, rows, rest) <= unused(rows) {
				return api.Slot{Slot: slot, Base: base}
			}
			rows[slot] = before
		}
	}
	// This is not reached: what was placed before has left room.
	return api.Slot{}
}

// unused returns how many rows nobody sends in.
func unused(rows []row) int {
	n := 0
	for _, r := range rows {
		if r.cycles == 0 {
			n++
		}
	}
	return n
}

// need returns how many more rows messages need.
func need(s api.Slotted, rows []row, messages []api.Message) int {
	n := 0
	for i, m := range messages {
		same := func(other api.Message) bool { return other.Sender == m.Sender }
		if !slices.ContainsFunc(messages[:i], same) {
			n += needOf(s, rows, messages, m.Sender)
		}
	}
	return n
}

// needOf returns how many more rows the messages of a sender need. The cycles of a message that is sent every n cycles
// are a group, one of n groups in a row; within them lie the groups of the messages that are sent less often. So there
// is room for all messages exactly if, for each n, there are enough groups that are quite free for those which are sent
// every n cycles or more often.
func needOf(s api.Slotted, rows []row, messages []api.Message, sender int) int {
	most := 0
	for n := 1; n <= s.Cycles; n *= 2 {
		lacking := 0
		for _, m := range messages {
			if m.Sender == sender && m.Every <= n {
				lacking += n / m.Every
			}
		}
		for _, r := range rows {
			if r.cycles != 0 && r.sender == sender {
				lacking -= freeGroups(s, r.cycles, n)
			}
		}
		if lacking > 0 {
			most = max(most, up(lacking, n))
		}
	}
	return most
}

// freeGroups returns how many of the n groups of every n-th cycle a row has free.
func freeGroups(s api.Slotted, cycles uint64, n int) int {
	for half := s.Cycles / 2; half >= n; half /= 2 {
		cycles |= cycles >> half
	}
	// Now the first n bits say which groups are taken; those behind them mean nothing.
	return n - bits.OnesCount64(cycles<<(64-n))
}
