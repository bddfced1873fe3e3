package bus

import (
	"slices"

	"ignition/api"
)

// inOrder returns the gates, each behind all that lead to it, as far as they do not go round.
func inOrder(n api.Net) []int {
	before := make([]int, len(n.Gates))
	for _, f := range n.Flows {
		for _, gate := range f.Path[1:] {
			before[gate]++
		}
	}
	var order []int
	for gate, steps := range before {
		if steps == 0 {
			order = append(order, gate)
		}
	}
	for i := 0; i < len(order); i++ {
		for _, next := range behind(n, order[i]) {
			if before[next]--; before[next] == 0 {
				order = append(order, next)
			}
		}
	}
	return order
}

// behind returns, for each flow that goes on from a gate, the next gate of its path.
func behind(n api.Net, gate int) []int {
	var l []int
	for _, f := range n.Flows {
		if step := slices.Index(f.Path, gate); step >= 0 && step+1 < len(f.Path) {
			l = append(l, f.Path[step+1])
		}
	}
	return l
}

// through returns the flows that go through a gate.
func through(n api.Net, gate int) []int {
	var l []int
	for i, f := range n.Flows {
		if slices.Contains(f.Path, gate) {
			l = append(l, i)
		}
	}
	return l
}

// isOverloaded reports whether more goes through some gate than it can send.
func isOverloaded(n api.Net) bool {
	for gate, g := range n.Gates {
		sum := 0
		for _, i := range through(n, gate) {
			sum += n.Flows[i].Rate
		}
		if sum > g.Rate {
			return true
		}
	}
	return false
}

// bounds returns the waits of gates and the delays of flows, and whether all bursts are at most MaxBytes.
func bounds(n api.Net) (waits, delays []int, is bool) {
	waits, delays = make([]int, len(n.Gates)), make([]int, len(n.Flows))
	bursts := make([]int, len(n.Flows))
	for i, f := range n.Flows {
		bursts[i] = f.Burst
	}
	for _, gate := range inOrder(n) {
		flows, sum := through(n, gate), 0
		for _, i := range flows {
			if bursts[i] > api.MaxBytes {
				return nil, nil, false
			}
			sum += bursts[i]
		}
		if len(flows) > 0 {
			waits[gate] = up(sum, n.Gates[gate].Rate) - 1
		}
		for _, i := range flows {
			bursts[i] += n.Flows[i].Rate * waits[gate]
			delays[i] += n.Gates[gate].Delay + waits[gate]
		}
	}
	return waits, delays, true
}

// conforms reports whether no more bytes come in any time than a flow may have.
func conforms(f api.Flow, traffic []int) bool {
	for first := range traffic {
		sum := 0
		for ticks, bytes := range traffic[first:] {
			sum += bytes
			if sum > f.Burst+f.Rate*ticks {
				return false
			}
		}
	}
	return true
}
