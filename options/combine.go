package options

import "ignition/api"

// pairs yields all combinations of two of n options, in the order of Missing.
func pairs(n int) func(yield func(api.Lack) bool) {
	return func(yield func(api.Lack) bool) {
		for a := range n {
			for b := a + 1; b < n; b++ {
				for i := range 4 {
					if !yield(api.Lack{A: a, B: b, WithA: i >= 2, WithB: i%2 == 1}) {
						return
					}
				}
			}
		}
	}
}

// chosen returns the choices of a combination of n options.
func chosen(n int, c api.Lack) []choice {
	choices := make([]choice, n)
	choices[c.A], choices[c.B] = pick(c.WithA), pick(c.WithB)
	return choices
}

func pick(taken bool) choice {
	if taken {
		return with
	}
	return without
}

// missing returns the combinations of two options that no variant of a knot has.
func (d *diagrams) missing(k knot) []api.Lack {
	var found []api.Lack
	for c := range pairs(len(d.order)) {
		if !d.meets(k, chosen(len(d.order), c)) {
			found = append(found, c)
		}
	}
	return found
}

// fixed returns for each option whether it is taken in all variants of a knot (1), in none (0), or in some (-1); there are some variants.
func (d *diagrams) fixed(k knot) []int {
	fixed := make([]int, len(d.order))
	for option := range fixed {
		choices := make([]choice, len(fixed))
		choices[option] = with
		taken := d.meets(k, choices)
		choices[option] = without
		switch left := d.meets(k, choices); {
		case taken && left:
			fixed[option] = -1
		case taken:
			fixed[option] = 1
		}
	}
	return fixed
}

// cover returns variants of a knot that have together all that some of them have.
func (d *diagrams) cover(k knot) [][]bool {
	n := len(d.order)
	var found [][]bool
	want := func(c api.Lack) {
		if !isIn(found, c) {
			found = append(found, d.first(k, chosen(n, c), 1)...)
		}
	}
	for option := range n { // a single option is a combination with itself
		want(api.Lack{A: option, B: option})
		want(api.Lack{A: option, B: option, WithA: true, WithB: true})
	}
	for c := range pairs(n) {
		want(c)
	}
	return found
}

// isIn reports whether a combination is in one of the variants.
func isIn(l [][]bool, c api.Lack) bool {
	for _, v := range l {
		if v[c.A] == c.WithA && v[c.B] == c.WithB {
			return true
		}
	}
	return false
}

// core returns which rules remain when each one is taken away, from the first to the last one, without which there is still no variant that meets a formula.
// If there is one with all rules, it reports that instead.
func (d *diagrams) core(rules []api.Formula, f api.Formula) (left []int, meets bool) {
	behind := make([]knot, len(rules)+1) // the formula with the rules from each one on
	behind[len(rules)] = d.of(f)
	for i := len(rules) - 1; i >= 0; i-- {
		behind[i] = d.join(api.And, d.of(rules[i]), behind[i+1])
	}
	if behind[0] != no {
		return nil, true
	}
	before := d.of(f) // the formula with the rules that remain
	for i, rule := range rules {
		if d.join(api.And, before, behind[i+1]) != no {
			left = append(left, i)
			before = d.join(api.And, before, d.of(rule))
		}
	}
	return left, false
}
