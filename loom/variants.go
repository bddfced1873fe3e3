package loom

import (
	"slices"

	"ignition/api"
	"ignition/options"
)

// present returns for each wire whether it is in a variant.
func present(l api.Loom, v []bool) []bool {
	in := make([]bool, len(l.Wires))
	for i, w := range l.Wires {
		in[i], _ = options.Holds(l.Model, w.Form, v)
	}
	return in
}

// carried returns the wires of a variant whose routes use a run.
func (t tree) carried(run int, v []bool) []int {
	in := present(t.Loom, v)
	return slices.DeleteFunc(t.through(run), func(wire int) bool { return !in[wire] })
}

// fill returns the sum of the sizes of some wires.
func (t tree) fill(wires []int) int {
	sum := 0
	for _, wire := range wires {
		sum += t.Wires[wire].Size
	}
	return sum
}

// worst returns the greatest fill of a run in a buildable variant, and the first variant that has it, or ErrBuild.
func (t tree) worst(run int) (fill int, v []bool, e api.Errno) {
	var forms []api.Formula
	var sizes []int
	for _, wire := range t.through(run) {
		forms = append(forms, t.Wires[wire].Form)
		sizes = append(sizes, t.Wires[wire].Size)
	}
	return options.Most(t.Model, forms, sizes)
}

// load is the greatest fill that some wires have in a buildable variant.
type load struct {
	wires []int
	fill  int
}

// finder finds out what there is in some buildable variant.
// It keeps what it has found, since this often answers the next questions, too: variants, as the lists of present, and loads.
type finder struct {
	tree
	found [][]bool
	loads []load
}

// some reports whether there is a buildable variant that is as wanted. If none of those found before is, find looks for one.
func (f *finder) some(wanted func(in []bool) bool, find func() (v []bool, is bool)) bool {
	if slices.ContainsFunc(f.found, wanted) {
		return true
	}
	v, is := find()
	if is {
		f.found = append(f.found, present(f.Loom, v))
	}
	return is
}

// buildable returns a buildable variant that find, which looks for one of a model, finds with all rules.
// It begins without rules and adds, one by one, those that do not hold in what has been found: few rules are often enough, and with few it is found much faster.
func (f *finder) buildable(find func(m api.Model) (v []bool, is bool)) (v []bool, is bool) {
	m := api.Model{Options: f.Model.Options}
	for {
		v, is := find(m)
		if !is {
			return nil, false
		}
		rule, all, _ := options.Buildable(f.Model, v)
		if all {
			return v, true
		}
		m.Rules = append(m.Rules, f.Model.Rules[rule])
	}
}

// together reports whether some buildable variant has all of these wires.
func (f *finder) together(wires ...int) bool {
	var forms []api.Formula
	for _, wire := range wires {
		forms = append(forms, f.Wires[wire].Form)
	}
	meets := func(m api.Model) (v []bool, is bool) {
		v, is, _ = options.Meets(m, forms)
		return v, is
	}
	wanted := func(in []bool) bool {
		return !slices.ContainsFunc(wires, func(wire int) bool { return !in[wire] })
	}
	return f.some(wanted, func() (v []bool, is bool) { return f.buildable(meets) })
}

// without reports whether some buildable variant does not have a wire.
func (f *finder) without(wire int) bool {
	lacks := func(m api.Model) (v []bool, is bool) {
		// A formula that is as long as it may be cannot be negated.
		v, always, _ := options.Implies(m, api.Formula{api.Yes}, f.Wires[wire].Form)
		return v, !always
	}
	wanted := func(in []bool) bool { return !in[wire] }
	return f.some(wanted, func() (v []bool, is bool) { return f.buildable(lacks) })
}

// limit returns what some wires do not fill more than, in any buildable variant.
func (f *finder) limit(wires []int) int {
	limit := f.fill(wires)
	for _, l := range f.loads {
		others := slices.DeleteFunc(slices.Clone(wires), func(wire int) bool { return slices.Contains(l.wires, wire) })
		limit = min(limit, l.fill+f.fill(others))
	}
	return limit
}

// overfills reports whether some buildable variant overfills a run.
func (f *finder) overfills(run int) bool {
	wires, room := f.through(run), f.Runs[run].Room
	if f.limit(wires) <= room {
		return false
	}
	wanted := func(in []bool) bool {
		has := slices.DeleteFunc(slices.Clone(wires), func(wire int) bool { return !in[wire] })
		return f.fill(has) > room
	}
	return f.some(wanted, func() (v []bool, is bool) {
		fill, v, _ := f.worst(run) // 0 if no variant is buildable
		f.loads = append(f.loads, load{wires, fill})
		return v, fill > room
	})
}

// share reports whether two wires have a pin in common.
func share(a, b api.Wire) bool {
	return a.From == b.From || a.From == b.To || a.To == b.From || a.To == b.To
}

// clashes returns the pairs of wires that have a pin in common and go together in some buildable variant.
func (f *finder) clashes() []api.Pair {
	var pairs []api.Pair
	for left := range f.Wires {
		for right := left + 1; right < len(f.Wires); right++ {
			if share(f.Wires[left], f.Wires[right]) && f.together(left, right) {
				pairs = append(pairs, api.Pair{Left: left, Right: right})
			}
		}
	}
	return pairs
}
