package parts_test

import (
	"math"
	"math/rand"
	"testing"

	"ignition/api"
	"ignition/parts"
)

// linked returns n parts with 6 inputs and 6 outputs each, and the links from the output 0 of the part 0 to the first so many inputs.
func linked(n, links int) api.Design {
	d := many(n)
	for i := range links {
		d.Links = append(d.Links, api.Link{To: i / 6, In: i % 6})
	}
	return d
}

// P2.6: how many parts and links there may be.
func TestDesignLimits(t *testing.T) {
	want(t, "CheckDesign of nothing", parts.CheckDesign(api.Design{}), api.OK)
	want(t, "CheckDesign of empty lists", parts.CheckDesign(api.Design{Parts: []api.Part{}, Links: []api.Link{}}), api.OK)
	want(t, "CheckDesign of 12 parts and 40 links", parts.CheckDesign(linked(12, 40)), api.OK)
	want(t, "CheckDesign of 13 parts", parts.CheckDesign(many(13)), api.ErrMany)
	want(t, "CheckDesign of 41 links", parts.CheckDesign(linked(12, 41)), api.ErrMany)
	want(t, "CheckDesign of 13 bad parts", parts.CheckDesign(api.Design{Parts: make([]api.Part, 13)}), api.ErrMany)
	want(t, "CheckDesign of 41 bad links", parts.CheckDesign(api.Design{Parts: make([]api.Part, 1), Links: make([]api.Link, 41)}), api.ErrMany)
	want(t, "CheckDesign of 12 bad parts", parts.CheckDesign(api.Design{Parts: make([]api.Part, 12)}), api.ErrPart)
	want(t, "CheckDesign of a link without parts", parts.CheckDesign(api.Design{Links: make([]api.Link, 1)}), api.ErrLink)
}

// P2.6: the errors of parts, in their order.
func TestDesignParts(t *testing.T) {
	d := many(4)
	d.Parts[3].Name = d.Parts[0].Name
	want(t, "CheckDesign with a name twice", parts.CheckDesign(d), api.ErrPart)
	d.Parts[3].In[0].Name = ""
	want(t, "CheckDesign with a bad part of a name that is there", parts.CheckDesign(d), api.ErrPort)
	d.Parts[1].Acts[0].Next = ops()
	want(t, "CheckDesign with two bad parts", parts.CheckDesign(d), api.ErrExpr)
	d = many(4)
	d.Parts[1].Name = d.Parts[0].Name
	d.Parts[2].Acts[0].Next = num(2)
	want(t, "CheckDesign with a name twice before a bad part", parts.CheckDesign(d), api.ErrPart)
	d = many(4)
	d.Parts[2].Acts[0].Next = num(2)
	d.Links = []api.Link{{From: 9}}
	want(t, "CheckDesign with a bad part and a bad link", parts.CheckDesign(d), api.ErrRange)
}

// P2.6: the errors of links.
func TestDesignLinks(t *testing.T) {
	for _, c := range []struct {
		l api.Link
		e api.Errno
	}{
		{api.Link{From: 0, Out: 5, To: 1, In: 5}, api.OK}, {api.Link{From: 1, Out: 0, To: 1, In: 0}, api.OK}, {api.Link{From: 2, To: 0}, api.OK}, {api.Link{From: 0, To: 2}, api.OK},
		{api.Link{From: -1}, api.ErrLink}, {api.Link{From: 3}, api.ErrLink}, {api.Link{Out: -1}, api.ErrLink}, {api.Link{Out: 6}, api.ErrLink},
		{api.Link{To: -1}, api.ErrLink}, {api.Link{To: 3}, api.ErrLink}, {api.Link{In: -1}, api.ErrLink}, {api.Link{In: 6}, api.ErrLink},
		{api.Link{From: math.MinInt}, api.ErrLink}, {api.Link{Out: math.MinInt}, api.ErrLink}, {api.Link{To: math.MinInt}, api.ErrLink}, {api.Link{In: math.MinInt}, api.ErrLink},
		{api.Link{From: math.MaxInt}, api.ErrLink}, {api.Link{Out: math.MaxInt}, api.ErrLink}, {api.Link{To: math.MaxInt}, api.ErrLink}, {api.Link{In: math.MaxInt}, api.ErrLink},
	} {
		d := many(3)
		d.Links = []api.Link{c.l}
		want(t, "CheckDesign of a link", parts.CheckDesign(d), c.e)
	}
	d := many(3)
	d.Links = []api.Link{{To: 1, In: 2}, {To: 1, In: 3}, {To: 2, In: 2}}
	want(t, "CheckDesign of links to different inputs", parts.CheckDesign(d), api.OK)
	d.Links = append(d.Links, api.Link{From: 2, Out: 4, To: 1, In: 2})
	want(t, "CheckDesign of two links to one input", parts.CheckDesign(d), api.ErrLink)
}

// P2.6: the range of the output lies within that of the input.
func TestLinkRange(t *testing.T) {
	for _, c := range []struct {
		low, high int
		e         api.Errno
	}{
		{-5, 5, api.OK}, {-6, 6, api.OK}, {-1000000, 1000000, api.OK}, {-4, 5, api.ErrLink}, {-5, 4, api.ErrLink}, {-4, 4, api.ErrLink}, {0, 0, api.ErrLink}, {-1000000, -6, api.ErrLink}, {6, 1000000, api.ErrLink},
	} {
		d := many(2)
		d.Parts[1].In[3] = port("in", c.low, c.high, c.low)
		d.Links = []api.Link{{From: 0, Out: 1, To: 1, In: 3}}
		want(t, "CheckDesign of a link from -5 to 5", parts.CheckDesign(d), c.e)
	}
}

// P2.6: the level of the part From is not lower; a link's other errors come first, but those of the links before it before them.
func TestLinkLevel(t *testing.T) {
	for from := range 5 {
		for to := range 5 {
			d := many(2)
			d.Parts[0].Level, d.Parts[1].Level = from, to
			d.Links = []api.Link{{From: 0, To: 1}}
			e := api.OK
			if from < to {
				e = api.ErrLevel
			}
			want(t, "CheckDesign of levels", parts.CheckDesign(d), e)
		}
	}
	d := many(2)
	d.Parts[1].Level = 1
	d.Links = []api.Link{{From: 0, To: 1}, {From: 0, To: 1}}
	want(t, "CheckDesign with a low level before a second link", parts.CheckDesign(d), api.ErrLevel)
	d.Links = []api.Link{{From: 1, To: 1}, {From: 0, To: 1}}
	want(t, "CheckDesign with a second link of a low level", parts.CheckDesign(d), api.ErrLink)
	d.Links = []api.Link{{From: 0, Out: 6, To: 1}}
	want(t, "CheckDesign with no output and a low level", parts.CheckDesign(d), api.ErrLink)
	d.Parts[1].In[0].High = 4
	d.Links = []api.Link{{From: 0, To: 1}}
	want(t, "CheckDesign with a small range and a low level", parts.CheckDesign(d), api.ErrLink)
	e := pair()
	e.Parts[1].Level = 4
	want(t, "CheckDesign of the example", parts.CheckDesign(e), api.ErrLevel)
}

// beforeOf returns all results of Before.
func beforeOf(d api.Design, part int) []any {
	l, e := parts.Before(d, part)
	return results(l, e)
}

// P2.8: the parts before a part.
func TestBefore(t *testing.T) {
	d := many(8)
	d.Links = []api.Link{{From: 4, To: 2}, {From: 3, To: 4}, {From: 0, To: 2, In: 1}, {From: 2, To: 1}, {From: 5, To: 6}, {From: 6, To: 5}, {From: 7, To: 7}, {From: 5, To: 3}}
	for part, l := range [][]int{{}, {0, 2, 3, 4, 5, 6}, {0, 3, 4, 5, 6}, {5, 6}, {3, 5, 6}, {5, 6}, {5, 6}, {7}} {
		want(t, "Before", beforeOf(d, part), results(l, api.OK))
	}
	want(t, "Before in the example", beforeOf(pair(), 1), results([]int{0}, api.OK))
	for _, part := range []int{-1, 8, math.MinInt, math.MaxInt} {
		want(t, "Before of no part", beforeOf(d, part), results([]int{}, api.ErrArg))
	}
	want(t, "Before without parts", beforeOf(api.Design{}, 0), results([]int{}, api.ErrArg))
	d.Links = append(d.Links, api.Link{From: 9})
	want(t, "Before of no part with a bad link", beforeOf(d, -1), results([]int{}, api.ErrLink))
}

// ways returns whether links lead from a part to another one in so many steps or fewer.
func ways(d api.Design, from, to, steps int) bool {
	for _, l := range d.Links {
		if l.From == from && (l.To == to || steps > 1 && ways(d, l.To, to, steps-1)) {
			return true
		}
	}
	return false
}

// P2.8: what is before a part is what a way leads from.
func TestRandomBefore(t *testing.T) {
	randomly(t, 1000, func(r *rand.Rand, d api.Design) {
		for part := range d.Parts {
			var l []int
			for from := range d.Parts {
				if ways(d, from, part, len(d.Parts)) {
					l = append(l, from)
				}
			}
			want(t, "Before", beforeOf(d, part), results(l, api.OK))
		}
	})
}
