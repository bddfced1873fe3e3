// Package options is layer 1: variants, formulas, counts and diagrams. See shared/doc/01-options.md.
package options

import (
	"slices"

	"ignition/api"
)

// CheckModel returns an error unless a model is valid.
func CheckModel(m api.Model) api.Errno {
	if len(m.Options) > api.MaxOptions || len(m.Rules) > api.MaxRules {
		return api.ErrMany
	}
	if e := checkNames(m.Options); e != api.OK {
		return e
	}
	return checkFormulas(len(m.Options), m.Rules...)
}

// CheckFormula returns an error unless a formula is valid.
func CheckFormula(m api.Model, f api.Formula) api.Errno {
	return check(m, f)
}

// Format returns a formula as text.
func Format(m api.Model, f api.Formula) (string, api.Errno) {
	if e := check(m, f); e != api.OK {
		return "", e
	}
	return write(f, m.Options), api.OK
}

// Parse reads a formula.
func Parse(m api.Model, text string) (api.Formula, api.Errno) {
	if e := CheckModel(m); e != api.OK {
		return nil, e
	}
	if len(text) > api.MaxText {
		return nil, api.ErrMany
	}
	r := reader{text: text, numbers: map[string]int{}}
	for number, name := range m.Options {
		r.numbers[name] = number
	}
	if e := r.read(); e != api.OK {
		return nil, e
	}
	if r.unknown {
		return nil, api.ErrOption
	}
	if len(r.formula) > api.MaxFormula {
		return nil, api.ErrFormula
	}
	return r.formula, api.OK
}

// Holds reports whether a formula holds in a variant.
func Holds(m api.Model, f api.Formula, v []bool) (bool, api.Errno) {
	if e := checkVariant(m, v, f); e != api.OK {
		return false, e
	}
	return holds(f, v), api.OK
}

// Buildable reports whether a variant is buildable, and the first rule that does not hold.
func Buildable(m api.Model, v []bool) (rule int, is bool, e api.Errno) {
	if e := checkVariant(m, v); e != api.OK {
		return 0, false, e
	}
	for i, f := range m.Rules {
		if !holds(f, v) {
			return i, false, api.OK
		}
	}
	return -1, true, api.OK
}

// ask solves what is asked about the buildable variants in which all formulas hold: those of the knot that work is called with.
func ask(m api.Model, l []api.Formula, work func(d *diagrams, k knot)) {
	all := slices.Concat(m.Rules, l)
	solve(len(m.Options), all, func(d *diagrams) { work(d, d.all(all...)) })
}

// Count returns how many buildable variants there are in which a formula holds.
func Count(m api.Model, f api.Formula) (int, api.Errno) {
	if e := check(m, f); e != api.OK {
		return 0, e
	}
	count := 0
	ask(m, []api.Formula{f}, func(d *diagrams, k knot) { count = d.count(k) })
	return count, api.OK
}

// List returns the first buildable variants in which a formula holds.
func List(m api.Model, f api.Formula, most int) ([][]bool, api.Errno) {
	if e := check(m, f); e != api.OK {
		return nil, e
	}
	if most < 1 || most > api.MaxList {
		return nil, api.ErrArg
	}
	return first(m, []api.Formula{f}, most), api.OK
}

// first returns the first most buildable variants in which all formulas hold.
func first(m api.Model, l []api.Formula, most int) [][]bool {
	var found [][]bool
	ask(m, l, func(d *diagrams, k knot) { found = d.first(k, make([]choice, len(m.Options)), most) })
	return found
}

// one returns the first buildable variant in which all formulas hold, and whether there is one.
func one(m api.Model, l ...api.Formula) (v []bool, is bool) {
	found := first(m, l, 1)
	if len(found) == 0 {
		return nil, false
	}
	return found[0], true
}

// Meets reports whether there is a buildable variant in which all formulas hold, and the first one.
func Meets(m api.Model, l []api.Formula) (v []bool, is bool, e api.Errno) {
	if e := checkList(m, l); e != api.OK {
		return nil, false, e
	}
	v, is = one(m, l...)
	return v, is, api.OK
}

// Implies reports whether g holds wherever f does, and where it does not.
func Implies(m api.Model, f, g api.Formula) (v []bool, is bool, e api.Errno) {
	if e := check(m, f, g); e != api.OK {
		return nil, false, e
	}
	v, found := one(m, f, append(api.Formula{api.Not}, g...))
	return v, !found, api.OK
}

// Most returns the greatest sum of weights of formulas that hold in a buildable variant, and the first variant that has it.
func Most(m api.Model, l []api.Formula, weights []int) (sum int, v []bool, e api.Errno) {
	if e := checkList(m, l); e != api.OK {
		return 0, nil, e
	}
	if len(weights) != len(l) {
		return 0, nil, api.ErrArg
	}
	for _, w := range weights {
		if w < -api.MaxWeight || w > api.MaxWeight {
			return 0, nil, api.ErrArg
		}
	}
	none := false
	solve(len(m.Options), slices.Concat(m.Rules, l), func(d *diagrams) {
		k := d.all(m.Rules...)
		none = k == no
		if !none {
			sum, v = d.most(k, l, weights)
		}
	})
	if none {
		return 0, nil, api.ErrBuild
	}
	return sum, v, api.OK
}

// Fixed returns which options are taken in all buildable variants, and which in none.
func Fixed(m api.Model) ([]int, api.Errno) {
	if e := CheckModel(m); e != api.OK {
		return nil, e
	}
	var fixed []int
	none := false
	ask(m, nil, func(d *diagrams, k knot) {
		none = k == no
		if !none {
			fixed = d.fixed(k)
		}
	})
	if none {
		return nil, api.ErrBuild
	}
	return fixed, api.OK
}

// Missing returns the combinations of two options that no buildable variant has.
func Missing(m api.Model) ([]api.Lack, api.Errno) {
	if e := CheckModel(m); e != api.OK {
		return nil, e
	}
	var found []api.Lack
	ask(m, nil, func(d *diagrams, k knot) { found = d.missing(k) })
	return found, api.OK
}

// Cover returns buildable variants that have all combinations of two options that are not missing.
func Cover(m api.Model) ([][]bool, api.Errno) {
	if e := CheckModel(m); e != api.OK {
		return nil, e
	}
	var found [][]bool
	ask(m, nil, func(d *diagrams, k knot) { found = d.cover(k) })
	return found, api.OK
}

// Core returns the rules because of which no buildable variant meets a formula.
func Core(m api.Model, f api.Formula) ([]int, api.Errno) {
	if e := check(m, f); e != api.OK {
		return nil, e
	}
	var left []int
	var meets bool
	solve(len(m.Options), append(slices.Clone(m.Rules), f), func(d *diagrams) { left, meets = d.core(m.Rules, f) })
	if meets {
		return nil, api.ErrArg
	}
	return left, api.OK
}

// Diagram returns the reduced diagram of a formula in buildable variants.
func Diagram(m api.Model, f api.Formula) (knots []api.Knot, root int, e api.Errno) {
	if e := check(m, f); e != api.OK {
		return nil, 0, e
	}
	ask(m, []api.Formula{f}, func(d *diagrams, k knot) {
		u := unfolder{diagrams: d, numbers: map[knot]int{}}
		root = u.number(k, 0)
		knots = u.knots
	})
	if len(knots) > api.MaxKnots {
		return nil, 0, api.ErrMany
	}
	return knots, root, api.OK
}

// Follow returns where a variant comes to in a diagram.
func Follow(m api.Model, knots []api.Knot, root int, v []bool) (bool, api.Errno) {
	if e := CheckModel(m); e != api.OK {
		return false, e
	}
	if e := checkDiagram(len(m.Options), knots, root); e != api.OK {
		return false, e
	}
	if len(v) != len(m.Options) {
		return false, api.ErrArg
	}
	at := root
	for at >= 0 {
		k := knots[at]
		at = k.Low
		if v[k.Option] {
			at = k.High
		}
	}
	return at == endYes, api.OK
}
