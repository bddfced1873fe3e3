package options

import "ignition/api"

// Where one comes to at the end of a diagram.
const (
	endNo  = -1
	endYes = -2
)

// unfolder lists the knots of a diagram in the options' own order.
type unfolder struct {
	*diagrams
	numbers map[knot]int
	knots   []api.Knot
}

// number returns the number of a knot, which asks for no option before the given one, and lists it behind all that it leads to.
// When there are more knots than there may be it gives up, and the number means nothing.
func (u *unfolder) number(k knot, option int) int {
	switch k {
	case no:
		return endNo
	case yes:
		return endYes
	}
	if number, is := u.numbers[k]; is || len(u.knots) > api.MaxKnots {
		return number
	}
	low, high := u.split(k, option)
	for low == high {
		option++
		low, high = u.split(k, option)
	}
	next := api.Knot{Option: option}
	next.Low = u.number(low, option+1)
	next.High = u.number(high, option+1)
	u.numbers[k] = len(u.knots)
	u.knots = append(u.knots, next)
	return u.numbers[k]
}

// split returns what is left of a knot without and with an option.
func (u *unfolder) split(k knot, option int) (low, high knot) {
	level := u.level[option]
	return u.restrict(k, level, without), u.restrict(k, level, with)
}

// checkDiagram returns ErrArg unless the knots are those of a diagram of n options, and root is where it begins.
func checkDiagram(n int, knots []api.Knot, root int) api.Errno {
	if len(knots) > api.MaxKnots || root < endYes || root >= len(knots) {
		return api.ErrArg
	}
	for i, k := range knots {
		if k.Option < 0 || k.Option >= n {
			return api.ErrArg
		}
		for _, next := range [2]int{k.Low, k.High} {
			if next < endYes || next >= i || next >= 0 && knots[next].Option <= k.Option {
				return api.ErrArg
			}
		}
	}
	return api.OK
}
