package options

import (
	"math/bits"
	"slices"

	"ignition/api"
)

const (
	firstSteps = 1 << 19 // of the first attempt
	moreSteps  = 4       // times as many for each further pair of attempts
	rounds     = 30      // in which options are gathered
	scale      = 1024    // for places between two options
)

// solve calls work with empty diagrams until it comes to its end within the steps that they may take.
// It tries the options' own order first, in which variants are found most directly, and then the one in which they are gathered,
// since some formulas need very many nodes in one of them and few in the other. What work finds must not depend on the order.
func solve(n int, l []api.Formula, work func(d *diagrams)) {
	for steps := firstSteps; ; steps *= moreSteps {
		if attempt(own(n), steps, work) || attempt(gathered(n, l...), steps, work) {
			return
		}
	}
}

// attempt reports whether work came to its end.
func attempt(order []int, steps int, work func(d *diagrams)) (done bool) {
	defer func() {
		if p := recover(); p != nil {
			if _, is := p.(tooLarge); !is {
				panic(p)
			}
		}
	}()
	work(newDiagrams(order, steps))
	return true
}

// own returns the options in their own order.
func own(n int) []int {
	order := make([]int, n)
	for i := range order {
		order[i] = i
	}
	return order
}

// gathered returns the options in an order in which those of the same terms stand close together.
// They begin as the formulas name them; then again and again each one moves to the middle of the terms that have it.
func gathered(n int, l ...api.Formula) []int {
	order := named(n, l...)
	terms := sets(l...)
	place := make([]int, n)
	for range rounds {
		for i, option := range order {
			place[option] = i * scale
		}
		aims := pulled(place, terms)
		slices.SortStableFunc(order, func(a, b int) int { return aims[a] - aims[b] })
	}
	return order
}

// named returns the options in the order in which formulas name them first, then those that none names.
func named(n int, l ...api.Formula) []int {
	var order []int
	seen := make([]bool, n)
	for _, f := range append(slices.Clone(l), own(n)) {
		for _, number := range f {
			if number >= 0 && !seen[number] {
				seen[number] = true
				order = append(order, number)
			}
		}
	}
	return order
}

// sets returns the options of each term of formulas, as bits.
func sets(l ...api.Formula) []uint64 {
	var terms []uint64
	for _, f := range l {
		fold(f, func(number int, x, y uint64) uint64 {
			set := x | y
			if number >= 0 {
				set = 1 << number
			}
			terms = append(terms, set)
			return set
		})
	}
	return terms
}

// pulled returns, for each option, the middle of the middles of the terms that have it, or its place if there are none.
func pulled(place []int, terms []uint64) []int {
	sums, counts := make([]int, len(place)), make([]int, len(place))
	for _, set := range terms {
		middle := 0
		for rest := set; rest != 0; rest &= rest - 1 {
			middle += place[bits.TrailingZeros64(rest)]
		}
		for rest := set; rest != 0; rest &= rest - 1 {
			option := bits.TrailingZeros64(rest)
			sums[option] += middle / bits.OnesCount64(set)
			counts[option]++
		}
	}
	aims := slices.Clone(place)
	for option, count := range counts {
		if count > 0 {
			aims[option] = sums[option] / count
		}
	}
	return aims
}
