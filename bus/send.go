package bus

import (
	"cmp"
	"slices"

	"ignition/api"
)

// lot is some bytes of a flow that came to its first gate in the same tick (born), and are at a step of its path.
type lot struct {
	flow, step, born, bytes int
}

// passing is what is on its way through a net: the lots that come to a gate or to the end, by the tick in which they do,
// and the lines of the gates.
type passing struct {
	net    api.Net
	coming map[int][]lot
	lines  [][]lot
}

// send returns, for each flow, for how long a byte is on its way at most, and whether all are at the end in time.
func send(n api.Net, traffic [][]int) ([]int, bool) {
	p := passing{n, map[int][]lot{}, make([][]lot, len(n.Gates))}
	for flow, l := range traffic {
		for t, bytes := range l {
			p.add(t, lot{flow, 0, t, bytes})
		}
	}
	longest := make([]int, len(n.Flows))
	for flow := range longest {
		longest[flow] = -1
	}
	// As long as bytes stand in line some of them are sent: so nothing is left if nothing is coming.
	for t := 0; t <= api.MaxArrive && len(p.coming) > 0; t++ {
		for _, l := range p.arrive(t) {
			longest[l.flow] = max(longest[l.flow], t-l.born)
		}
		for gate := range n.Gates {
			p.pass(t, gate)
		}
	}
	return longest, len(p.coming) == 0
}

// add says when a lot comes to the gate of its step, or to the end.
func (p *passing) add(t int, l lot) {
	if l.bytes > 0 {
		p.coming[t] = append(p.coming[t], l)
	}
}

// arrive puts the lots that come in a tick behind the lines of their gates, and returns those that are at the end.
func (p *passing) arrive(t int) []lot {
	lots := p.coming[t]
	delete(p.coming, t)
	// Those of one flow come from one gate, in the order in which they left it.
	slices.SortStableFunc(lots, func(a, b lot) int { return cmp.Compare(a.flow, b.flow) })
	var ended []lot
	for _, l := range lots {
		if path := p.net.Flows[l.flow].Path; l.step < len(path) {
			p.lines[path[l.step]] = append(p.lines[path[l.step]], l)
		} else {
			ended = append(ended, l)
		}
	}
	return ended
}

// pass makes a gate send the first bytes of its line.
func (p *passing) pass(t, gate int) {
	g := p.net.Gates[gate]
	for left := g.Rate; left > 0 && len(p.lines[gate]) > 0; {
		first := &p.lines[gate][0]
		bytes := min(left, first.bytes)
		p.add(t+g.Delay, lot{first.flow, first.step + 1, first.born, bytes})
		left -= bytes
		if first.bytes -= bytes; first.bytes == 0 {
			p.lines[gate] = p.lines[gate][1:]
		}
	}
}
