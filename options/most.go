package options

import (
	"cmp"
	"slices"
	"strconv"

	"ignition/api"
)

// lowest is less than any sum of weights.
const lowest = -1 << 40

// term is a formula that adds a weight to the sums of the variants in which it holds.
type term struct {
	form   knot
	weight int
}

// rest is what is left to be decided: which variants are allowed, and what counts in them. The forms ascend.
type rest struct {
	allowed knot
	terms   []term
}

// bound is the greatest sum of a rest, or, if it is not exact, something that this sum does not exceed.
type bound struct {
	sum   int
	exact bool
}

// finder finds greatest sums.
type finder struct {
	*diagrams
	bounds map[string]bound // by the keys of rests
}

// key tells a rest from all others.
func (r rest) key() string {
	b := strconv.AppendInt(nil, int64(r.allowed), 10)
	for _, t := range r.terms {
		b = strconv.AppendInt(append(b, ' '), int64(t.form), 10)
		b = strconv.AppendInt(append(b, ' '), int64(t.weight), 10)
	}
	return string(b)
}

// limit returns a sum that no variant exceeds.
func (r rest) limit() int {
	limit := 0
	for _, t := range r.terms {
		limit += max(0, t.weight)
	}
	return limit
}

// settle returns the rest of terms, which it may change, and the sum of those that are decided.
// Terms that hold in the same variants, or one just where the other does not, become one, so that equal rests are known as such.
func (f *finder) settle(allowed knot, terms []term) (r rest, sum int) {
	for i, t := range terms {
		if other := f.not(t.form); other < t.form {
			sum += t.weight
			terms[i] = term{other, -t.weight}
		}
	}
	slices.SortFunc(terms, func(a, b term) int { return cmp.Compare(a.form, b.form) })
	left := terms[:0]
	for _, t := range terms {
		if last := len(left) - 1; last >= 0 && left[last].form == t.form {
			left[last].weight += t.weight
		} else if t.form != no { // yes has become no above
			left = append(left, t)
		}
	}
	left = slices.DeleteFunc(left, func(t term) bool { return t.weight == 0 })
	return rest{allowed, left}, sum
}

// narrow returns what is left of a rest with a choice at a level, and the sum of what is decided by it.
func (f *finder) narrow(r rest, level int, c choice) (next rest, sum int) {
	allowed := f.restrict(r.allowed, level, c)
	if allowed == no {
		return rest{}, 0
	}
	terms := slices.Clone(r.terms)
	for i, t := range terms {
		terms[i].form = f.restrict(t.form, level, c)
	}
	return f.settle(allowed, terms)
}

// next returns the first level that a rest asks for.
func (f *finder) next(r rest) int {
	level := f.nodes[r.allowed].level
	for _, t := range r.terms {
		level = min(level, f.nodes[t.form].level)
	}
	return level
}

// best returns the greatest sum of the variants of a rest if it is above a floor, and otherwise something between both.
func (f *finder) best(r rest, floor int) int {
	if r.allowed == no {
		return lowest
	}
	if limit := r.limit(); limit <= floor || len(r.terms) == 0 {
		return limit
	}
	key := r.key()
	if b, is := f.bounds[key]; is && (b.exact || b.sum <= floor) {
		return b.sum
	}
	f.spend(len(r.terms))
	level := f.next(r)
	a, sumA := f.narrow(r, level, without)
	b, sumB := f.narrow(r, level, with)
	if sumB+b.limit() > sumA+a.limit() { // the more there is above the floor, the more is cut off below it
		a, sumA, b, sumB = b, sumB, a, sumA
	}
	best := sumA + f.best(a, floor-sumA)
	best = max(best, sumB+f.best(b, max(floor, best)-sumB))
	f.bounds[key] = bound{best, best > floor}
	return best
}

// reach returns the first variant of a rest that has its greatest sum.
func (f *finder) reach(r rest, sum int) []bool {
	v := make([]bool, len(f.order))
	for option, level := range f.level {
		next, decided := f.narrow(r, level, without)
		if decided+f.best(next, sum-decided-1) < sum {
			v[option] = true
			next, decided = f.narrow(r, level, with)
		}
		r, sum = next, sum-decided
	}
	return v
}

// most returns the greatest sum of the variants that a knot means, which are some, and the first one that has it.
func (d *diagrams) most(k knot, l []api.Formula, weights []int) (sum int, v []bool) {
	f := finder{diagrams: d, bounds: map[string]bound{}}
	terms := make([]term, len(l))
	for i, form := range l {
		terms[i] = term{d.of(form), weights[i]}
	}
	r, decided := f.settle(k, terms)
	sum = f.best(r, lowest)
	return decided + sum, f.reach(r, sum)
}
