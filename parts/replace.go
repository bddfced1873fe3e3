package parts

import (
	"slices"

	"ignition/api"
)

// fits reports whether new fits old; both are valid.
func fits(old, new api.Part) bool {
	for _, in := range new.In {
		i := portNamed(old.In, in.Name)
		if i < 0 || !rangeOf(old.In[i]).within(rangeOf(in)) {
			return false
		}
	}
	for _, out := range old.Out {
		i := portNamed(new.Out, out.Name)
		if i < 0 || !rangeOf(new.Out[i]).within(rangeOf(out)) {
			return false
		}
	}
	return new.Level >= old.Level && old.Every%new.Every == 0
}

// replace returns a valid design with a part that fits in the place of one.
func replace(d api.Design, part int, new api.Part) api.Design {
	old := d.Parts[part]
	var r api.Design
	for i, p := range d.Parts {
		if i == part {
			p = new
		}
		r.Parts = append(r.Parts, copyPart(p))
	}
	for _, l := range d.Links {
		if l.From == part {
			l.Out = portNamed(new.Out, old.Out[l.Out].Name)
		}
		if l.To == part {
			l.In = portNamed(new.In, old.In[l.In].Name)
		}
		if l.In >= 0 {
			r.Links = append(r.Links, l)
		}
	}
	return r
}

// levelsHold reports whether no link leads to a part from one with a lower level.
func levelsHold(d api.Design) bool {
	for _, l := range d.Links {
		if d.Parts[l.From].Level < d.Parts[l.To].Level {
			return false
		}
	}
	return true
}

// copyPart returns a part that shares no memory with p.
func copyPart(p api.Part) api.Part {
	p.In, p.Out, p.Keep = slices.Clone(p.In), slices.Clone(p.Out), slices.Clone(p.Keep)
	p.Acts = slices.Clone(p.Acts)
	for i, a := range p.Acts {
		p.Acts[i] = api.Act{Out: copyExprs(a.Out), Keep: copyExprs(a.Keep), Next: copyExpr(a.Next)}
	}
	return p
}

// copyExprs returns expressions that share no memory with l.
func copyExprs(l []api.Expr) []api.Expr {
	l = slices.Clone(l)
	for i, x := range l {
		l[i] = copyExpr(x)
	}
	return l
}

// copyExpr returns an expression that shares no memory with x.
func copyExpr(x api.Expr) api.Expr { return api.Expr{Ops: slices.Clone(x.Ops)} }

// sameParts reports whether two parts are equal in all fields.
func sameParts(a, b api.Part) bool {
	return a.Name == b.Name && a.Every == b.Every && a.Level == b.Level &&
		slices.Equal(a.In, b.In) && slices.Equal(a.Out, b.Out) && slices.Equal(a.Keep, b.Keep) &&
		slices.EqualFunc(a.Acts, b.Acts, sameActs)
}

// sameActs reports whether two acts are equal in all fields.
func sameActs(a, b api.Act) bool {
	return slices.EqualFunc(a.Out, b.Out, sameExprs) && slices.EqualFunc(a.Keep, b.Keep, sameExprs) && sameExprs(a.Next, b.Next)
}

// sameExprs reports whether two expressions have the same operations.
func sameExprs(a, b api.Expr) bool { return slices.Equal(a.Ops, b.Ops) }
