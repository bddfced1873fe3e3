package options

import (
	"slices"

	"ignition/api"
)

// knot is the number of a node of diagrams; the first two ask for nothing.
type knot int32

const (
	no  knot = 0
	yes knot = 1
)

// node asks for the option of a level, and goes on to low without it and to high with it.
type node struct {
	level     int
	low, high knot
}

// choice says what has been chosen for an option.
type choice int

const (
	open choice = iota
	without
	with
)

// task is something that has been worked out: the operator of two knots, or the choice (kind) at a level (b) of a knot (a).
type task struct {
	kind, a, b int32
}

// tooLarge is what diagrams panic with when they would take more steps than they may.
type tooLarge struct{}

// diagrams are reduced diagrams that share their nodes, so that two knots are equal exactly if they mean the same variants.
// They ask for the options level by level, which need not be the options' own order. A node stands behind those that it leads to.
type diagrams struct {
	order []int // the option of each level
	level []int // the level of each option
	nodes []node
	find  map[node]knot
	done  map[task]knot
	steps int // how many may still be taken
}

func newDiagrams(order []int, steps int) *diagrams {
	d := &diagrams{order: order, level: make([]int, len(order)), find: map[node]knot{}, done: map[task]knot{}, steps: steps}
	for level, option := range order {
		d.level[option] = level
	}
	end := node{level: len(order)}
	d.nodes = append(d.nodes, end, end)
	return d
}

// spend takes steps, and gives up when there are no more.
func (d *diagrams) spend(steps int) {
	d.steps -= steps
	if d.steps < 0 {
		panic(tooLarge{})
	}
}

// fork returns the knot that asks for the option of a level.
func (d *diagrams) fork(level int, low, high knot) knot {
	if low == high {
		return low
	}
	n := node{level, low, high}
	k, is := d.find[n]
	if !is {
		k = knot(len(d.nodes))
		d.nodes = append(d.nodes, n)
		d.find[n] = k
	}
	return k
}

// step returns where a knot that asks for nothing before a level leads to from this level.
func (d *diagrams) step(k knot, level int) (low, high knot) {
	n := d.nodes[k]
	if n.level > level {
		return k, k
	}
	return n.low, n.high
}

// join returns the knot of And, Or or Same of two knots.
func (d *diagrams) join(operator int, a, b knot) knot {
	if a > b { // all three are symmetric
		a, b = b, a
	}
	if k, is := plain(operator, a, b); is {
		return k
	}
	t := task{int32(operator), int32(a), int32(b)}
	if k, is := d.done[t]; is {
		return k
	}
	d.spend(1)
	level := min(d.nodes[a].level, d.nodes[b].level)
	lowA, highA := d.step(a, level)
	lowB, highB := d.step(b, level)
	k := d.fork(level, d.join(operator, lowA, lowB), d.join(operator, highA, highB))
	d.done[t] = k
	return k
}

// plain returns what And, Or or Same of two knots is if their nodes need not be looked at; a is not greater than b.
func plain(operator int, a, b knot) (k knot, is bool) {
	switch {
	case a == b && operator == api.Same:
		return yes, true
	case a == b:
		return a, true
	case a == no && operator == api.And:
		return no, true
	case a == no && operator == api.Or:
		return b, true
	case a == no: // Same, which is Not b
		return no, b == yes
	case a == yes && operator == api.Or:
		return yes, true
	case a == yes:
		return b, true
	}
	return no, false
}

// not returns the knot that means all other variants.
func (d *diagrams) not(k knot) knot {
	return d.join(api.Same, no, k)
}

// of returns the knot of a valid formula.
func (d *diagrams) of(f api.Formula) knot {
	return fold(f, func(number int, x, y knot) knot {
		switch number {
		case api.Yes:
			return yes
		case api.No:
			return no
		case api.Not:
			return d.not(x)
		case api.And, api.Or, api.Same:
			return d.join(number, x, y)
		}
		return d.fork(d.level[number], no, yes)
	})
}

// all returns the knot of the variants in which all formulas hold.
// It begins with those that ask for the last levels: the others then leave most of what is there as it is.
func (d *diagrams) all(l ...api.Formula) knot {
	knots := make([]knot, len(l))
	for i, f := range l {
		knots[i] = d.of(f)
	}
	slices.SortStableFunc(knots, func(a, b knot) int { return d.nodes[b].level - d.nodes[a].level })
	all := yes
	for _, k := range knots {
		all = d.join(api.And, all, k)
	}
	return all
}

// restrict returns the knot of what is left with a choice at a level.
func (d *diagrams) restrict(k knot, level int, c choice) knot {
	n := d.nodes[k]
	switch {
	case n.level > level:
		return k
	case n.level == level && c == with:
		return n.high
	case n.level == level:
		return n.low
	}
	t := task{int32(c), int32(k), int32(level)}
	if k, is := d.done[t]; is {
		return k
	}
	left := d.fork(n.level, d.restrict(n.low, level, c), d.restrict(n.high, level, c))
	d.done[t] = left
	return left
}
