package options

import "ignition/api"

// operands returns how many operands a number of a formula has, and whether a formula for n options may contain it.
func operands(number, n int) (count int, is bool) {
	switch number {
	case api.Yes, api.No:
		return 0, true
	case api.Not:
		return 1, true
	case api.And, api.Or, api.Same:
		return 2, true
	}
	return 0, number >= 0 && number < n
}

// valid reports whether a formula is valid for n options.
func valid(f api.Formula, n int) bool {
	if len(f) > api.MaxFormula {
		return false
	}
	lacking := 1 // terms that have yet to come
	for _, number := range f {
		count, is := operands(number, n)
		if !is || lacking == 0 {
			return false
		}
		lacking += count - 1
	}
	return lacking == 0
}

// fold works a valid formula out: take returns what a number makes of its operands, of which it uses as many as it has.
// It goes from the last number to the first one, so that the operands are there when their operator comes.
func fold[T any](f api.Formula, take func(number int, x, y T) T) T {
	var ready []T // operands, the next one last
	for i := len(f) - 1; i >= 0; i-- {
		var x, y T
		count, _ := operands(f[i], 0)
		if count > 0 {
			x = ready[len(ready)-1]
		}
		if count > 1 {
			y = ready[len(ready)-2]
		}
		ready = append(ready[:len(ready)-count], take(f[i], x, y))
	}
	return ready[0]
}

// holds reports whether a valid formula holds in a variant.
func holds(f api.Formula, v []bool) bool {
	return fold(f, func(number int, x, y bool) bool {
		switch number {
		case api.Yes:
			return true
		case api.No:
			return false
		case api.Not:
			return !x
		case api.And:
			return x && y
		case api.Or:
			return x || y
		case api.Same:
			return x == y
		}
		return v[number]
	})
}

// write returns a valid formula as text.
func write(f api.Formula, names []string) string {
	return fold(f, func(number int, x, y string) string {
		switch number {
		case api.Yes:
			return "yes"
		case api.No:
			return "no"
		case api.Not:
			return "!" + x
		case api.And:
			return "(" + x + " & " + y + ")"
		case api.Or:
			return "(" + x + " | " + y + ")"
		case api.Same:
			return "(" + x + " = " + y + ")"
		}
		return names[number]
	})
}
