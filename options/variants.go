package options

import "slices"

// count returns how many variants a knot means.
func (d *diagrams) count(k knot) int {
	counts := make([]int, k+2) // for each knot, of the options from its level on
	counts[yes] = 1
	for i := yes + 1; i <= k; i++ {
		n := d.nodes[i]
		counts[i] = counts[n.low]<<d.between(n, n.low) + counts[n.high]<<d.between(n, n.high)
	}
	return counts[k] << d.nodes[k].level
}

// between returns how many options a node skips on its way to a knot.
func (d *diagrams) between(n node, k knot) int {
	return d.nodes[k].level - n.level - 1
}

// meets reports whether a knot means a variant with these choices.
func (d *diagrams) meets(k knot, choices []choice) bool {
	failed := map[knot]bool{}
	var walk func(k knot) bool
	walk = func(k knot) bool {
		if k <= yes || failed[k] {
			return k == yes
		}
		n := d.nodes[k]
		c := choices[d.order[n.level]]
		if c != with && walk(n.low) || c != without && walk(n.high) {
			return true
		}
		failed[k] = true
		return false
	}
	return walk(k)
}

// first returns the first most variants that a knot means with these choices.
func (d *diagrams) first(k knot, choices []choice, most int) [][]bool {
	var found [][]bool
	choices = slices.Clone(choices)
	var walk func(option int)
	walk = func(option int) {
		switch {
		case len(found) == most || !d.meets(k, choices):
		case option == len(choices):
			found = append(found, variant(choices))
		case choices[option] != open:
			walk(option + 1)
		default:
			for _, c := range [2]choice{without, with} {
				choices[option] = c
				walk(option + 1)
			}
			choices[option] = open
		}
	}
	walk(0)
	return found
}

// variant returns the variant in which what has been chosen is taken.
func variant(choices []choice) []bool {
	v := make([]bool, len(choices))
	for option, c := range choices {
		v[option] = c == with
	}
	return v
}
