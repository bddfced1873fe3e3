package parts_test

import (
	"math/rand"
	"strconv"
	"testing"

	"ignition/api"
	"ignition/parts"
)

// changes returns everything that can be changed in the design of the pair.
func changes() []func(d *api.Design) {
	return []func(d *api.Design){
		func(d *api.Design) { d.Parts = d.Parts[:1] },
		func(d *api.Design) { d.Parts = append(d.Parts, api.Part{}) },
		func(d *api.Design) { d.Parts[0], d.Parts[1] = d.Parts[1], d.Parts[0] },
		func(d *api.Design) { d.Parts[1].Name = "other" },
		func(d *api.Design) { d.Parts[0].Every++ },
		func(d *api.Design) { d.Parts[0].Level++ },
		func(d *api.Design) { d.Parts[0].In = nil },
		func(d *api.Design) { d.Parts[0].In = append(d.Parts[0].In, api.Port{}) },
		func(d *api.Design) { d.Parts[0].In[0].Name = "other" },
		func(d *api.Design) { d.Parts[0].In[0].Low-- },
		func(d *api.Design) { d.Parts[0].In[0].High-- },
		func(d *api.Design) { d.Parts[0].In[0].Start++ },
		func(d *api.Design) { d.Parts[0].Out = nil },
		func(d *api.Design) { d.Parts[0].Out[0].Start++ },
		func(d *api.Design) { d.Parts[1].Out = append(d.Parts[1].Out, api.Port{}) },
		func(d *api.Design) { d.Parts[0].Keep = nil },
		func(d *api.Design) { d.Parts[0].Keep[0].High++ },
		func(d *api.Design) { d.Parts[0].Acts = nil },
		func(d *api.Design) { d.Parts[0].Acts = append(d.Parts[0].Acts, d.Parts[0].Acts[0]) },
		func(d *api.Design) { d.Parts[0].Acts[0].Out = nil },
		func(d *api.Design) { d.Parts[0].Acts[0].Out = append(d.Parts[0].Acts[0].Out, num(0)) },
		func(d *api.Design) { d.Parts[0].Acts[0].Out[0].Ops[1].Kind++ },
		func(d *api.Design) { d.Parts[0].Acts[0].Out[0].Ops[0].Value++ },
		func(d *api.Design) { d.Parts[0].Acts[0].Out[0].Ops = d.Parts[0].Acts[0].Out[0].Ops[:2] },
		func(d *api.Design) { d.Parts[0].Acts[0].Keep = nil },
		func(d *api.Design) { d.Parts[0].Acts[0].Keep[0].Ops[0].Value++ },
		func(d *api.Design) { d.Parts[0].Acts[0].Next.Ops[0].Kind++ },
		func(d *api.Design) { d.Parts[0].Acts[0].Next.Ops[0].Value++ },
		func(d *api.Design) { d.Parts[0].Acts[0].Next.Ops = nil },
		func(d *api.Design) { d.Links = nil },
		func(d *api.Design) { d.Links = append(d.Links, api.Link{}) },
		func(d *api.Design) { d.Links[0].From++ },
		func(d *api.Design) { d.Links[0].Out++ },
		func(d *api.Design) { d.Links[0].To++ },
		func(d *api.Design) { d.Links[0].In++ },
	}
}

// P2.13: two designs are the same if nothing is different.
func TestSame(t *testing.T) {
	want(t, "Same of equal designs", parts.Same(pair(), pair()), true)
	for i, change := range changes() {
		a, b := pair(), pair()
		change(&a)
		want(t, "Same with the change "+strconv.Itoa(i), parts.Same(a, b), false)
		want(t, "Same with the change, otherwise "+strconv.Itoa(i), parts.Same(b, a), false)
		change(&b)
		want(t, "Same with the change in both "+strconv.Itoa(i), parts.Same(a, b), true)
	}
}

// P2.13: nil and empty lists are the same, and designs need not be valid.
func TestSameEmpty(t *testing.T) {
	none := api.Design{Parts: []api.Part{{}, {Acts: []api.Act{{}}}, {Acts: []api.Act{{Out: make([]api.Expr, 1), Keep: make([]api.Expr, 1)}}}}}
	empty := api.Design{Parts: []api.Part{
		{In: []api.Port{}, Out: []api.Port{}, Keep: []api.Port{}, Acts: []api.Act{}},
		{Acts: []api.Act{{Out: []api.Expr{}, Keep: []api.Expr{}, Next: api.Expr{Ops: []api.Op{}}}}},
		{Acts: []api.Act{{Out: []api.Expr{{Ops: []api.Op{}}}, Keep: []api.Expr{{Ops: []api.Op{}}}}}},
	}, Links: []api.Link{}}
	want(t, "Same of nil and empty lists", parts.Same(none, empty), true)
	want(t, "Same of empty and nil lists", parts.Same(empty, none), true)
	want(t, "Same of nothing", parts.Same(api.Design{}, api.Design{Parts: []api.Part{}, Links: []api.Link{}}), true)
	want(t, "Same of large designs", parts.Same(many(100), many(100)), true)
	want(t, "Same of large designs that are different", parts.Same(many(100), many(101)), false)
}

// P2.13: designs are the same as themselves, and as few others.
func TestRandomSame(t *testing.T) {
	var last api.Design
	randomly(t, 300, func(r *rand.Rand, d api.Design) {
		want(t, "Same of a design", parts.Same(d, d), true)
		want(t, "Same of two designs", parts.Same(d, last), len(d.Parts) == 0 && len(last.Parts) == 0)
		last = d
	})
}
