package parts

import (
	"slices"

	"ignition/api"
)

// begin returns the state of a valid part at the start.
func begin(p api.Part) api.State { return api.State{Keep: starts(p.Keep)} }

// starts returns the values of ports at the start.
func starts(ports []api.Port) []int {
	var values []int
	for _, p := range ports {
		values = append(values, p.Start)
	}
	return values
}

// step runs a valid part once, with a state and inputs that are right for it.
func step(p api.Part, s api.State, in []int) (out []int, next api.State) {
	a := p.Acts[s.Mode]
	for _, x := range a.Out {
		out = append(out, evaluate(x, in, s.Keep))
	}
	for _, x := range a.Keep {
		next.Keep = append(next.Keep, evaluate(x, in, s.Keep))
	}
	next.Mode = evaluate(a.Next, in, s.Keep)
	return out, next
}

// checkFeeds returns the first error of the feeds of a valid design.
func checkFeeds(d api.Design, feeds []api.Feed) api.Errno {
	if len(feeds) > api.MaxLinks {
		return api.ErrMany
	}
	for i, f := range feeds {
		if !isFeed(d, f) || feedOf(feeds[:i], f.Part, f.In) >= 0 {
			return api.ErrFeed
		}
	}
	return api.OK
}

// isFeed reports whether a feed is right for a design, whatever other feeds there are.
func isFeed(d api.Design, f api.Feed) bool {
	if !hasInput(d, f.Part, f.In) || isLinked(d.Links, f.Part, f.In) || len(f.Values) < 1 || len(f.Values) > api.MaxTicks {
		return false
	}
	for _, v := range f.Values {
		if !rangeOf(d.Parts[f.Part].In[f.In]).has(v) {
			return false
		}
	}
	return true
}

// feedOf returns the number of the first feed of an input, or -1.
func feedOf(feeds []api.Feed, part, in int) int {
	return slices.IndexFunc(feeds, func(f api.Feed) bool { return f.Part == part && f.In == in })
}

// source is where an input has its values from: a place in the row of the tick before if it is linked, otherwise values tick by tick.
type source struct {
	linked bool
	place  int
	values []int
}

// runner is a design that runs.
type runner struct {
	parts   []api.Part
	sources [][]source // for each part, of its inputs
	places  []int      // for each part, where its outputs begin in a row
	states  []api.State
	row     []int // the values of all outputs
}

// newRunner returns a design at its start.
func newRunner(d api.Design, feeds []api.Feed) *runner {
	r := &runner{parts: d.Parts, sources: make([][]source, len(d.Parts))}
	for i, p := range d.Parts {
		r.places = append(r.places, len(r.row))
		r.row = append(r.row, starts(p.Out)...)
		r.states = append(r.states, begin(p))
		for _, start := range starts(p.In) {
			r.sources[i] = append(r.sources[i], source{values: []int{start}})
		}
	}
	for _, f := range feeds {
		r.sources[f.Part][f.In].values = f.Values
	}
	for _, l := range d.Links {
		r.sources[l.To][l.In] = source{linked: true, place: r.places[l.From] + l.Out}
	}
	return r
}

// tick runs the parts whose turn it is, and returns the new row. They read the row before, so that the order of the parts does not matter.
func (r *runner) tick(tick int) []int {
	row := slices.Clone(r.row)
	for i, p := range r.parts {
		if tick%p.Every == 0 {
			out, next := step(p, r.states[i], r.inputs(i, tick))
			copy(row[r.places[i]:], out)
			r.states[i] = next
		}
	}
	r.row = row
	return row
}

// inputs returns what a part reads in a tick.
func (r *runner) inputs(part, tick int) []int {
	var in []int
	for _, s := range r.sources[part] {
		if s.linked {
			in = append(in, r.row[s.place])
		} else {
			in = append(in, s.values[min(tick, len(s.values)-1)])
		}
	}
	return in
}

// before returns the parts from which links lead to a part, directly or through others, in ascending order.
func before(d api.Design, part int) []int {
	leads := make([]bool, len(d.Parts))
	for more := true; more; {
		more = false
		for _, l := range d.Links {
			if (l.To == part || leads[l.To]) && !leads[l.From] {
				leads[l.From], more = true, true
			}
		}
	}
	var found []int
	for i, is := range leads {
		if is {
			found = append(found, i)
		}
	}
	return found
}
