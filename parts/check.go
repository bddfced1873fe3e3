package parts

import (
	"slices"

	"ignition/api"
)

// isLetter reports whether a name may contain a byte.
func isLetter(c byte) bool { return c >= 'a' && c <= 'z' }

// isName reports whether a part or a port may be called so.
func isName(s string) bool {
	if len(s) == 0 || len(s) > api.MaxName {
		return false
	}
	for i := range len(s) {
		if !isLetter(s[i]) {
			return false
		}
	}
	return true
}

// isPart reports whether a part is right but for its ports and what its acts do.
func isPart(p api.Part) bool {
	most := max(len(p.In), len(p.Out), len(p.Keep))
	return isName(p.Name) && p.Every >= 1 && p.Every <= api.MaxEvery && p.Level >= 0 && p.Level <= api.MaxLevel &&
		len(p.Acts) >= 1 && len(p.Acts) <= api.MaxModes && most <= api.MaxPorts
}

// checkPorts returns ErrPort unless all ports of a part are right.
func checkPorts(p api.Part) api.Errno {
	ports := slices.Concat(p.In, p.Out, p.Keep)
	for i, port := range ports {
		if !isName(port.Name) || portNamed(ports[:i], port.Name) >= 0 {
			return api.ErrPort
		}
		if port.Low < -api.MaxValue || port.High > api.MaxValue || !rangeOf(port).has(port.Start) {
			return api.ErrPort
		}
	}
	return api.OK
}

// portNamed returns the number of the first port with a name, or -1.
func portNamed(ports []api.Port, name string) int {
	return slices.IndexFunc(ports, func(p api.Port) bool { return p.Name == name })
}

// partNamed returns the number of the first part with a name, or -1.
func partNamed(parts []api.Part, name string) int {
	return slices.IndexFunc(parts, func(p api.Part) bool { return p.Name == name })
}

// checkAct returns the first error of an act.
func checkAct(p api.Part, a api.Act) api.Errno {
	if len(a.Out) != len(p.Out) || len(a.Keep) != len(p.Keep) {
		return api.ErrPart
	}
	for i, x := range a.Out {
		if e := checkExpr(p, x, rangeOf(p.Out[i])); e != api.OK {
			return e
		}
	}
	for i, x := range a.Keep {
		if e := checkExpr(p, x, rangeOf(p.Keep[i])); e != api.OK {
			return e
		}
	}
	return checkExpr(p, a.Next, span{0, len(p.Acts) - 1})
}

// checkExpr returns the error of an expression whose values may be those of a span.
func checkExpr(p api.Part, x api.Expr, may span) api.Errno {
	s, e := measure(p, x)
	if e == api.OK && !s.within(may) {
		return api.ErrRange
	}
	return e
}

// wellFormed reports whether an expression of a part is well formed.
func wellFormed(p api.Part, x api.Expr) bool {
	if len(x.Ops) > api.MaxOps {
		return false
	}
	height := 0 // of the stack
	for _, op := range x.Ops {
		if !isOp(p, op) || height < takes(op.Kind) {
			return false
		}
		height += 1 - takes(op.Kind)
	}
	return height == 1
}

// isOp reports whether there is such an operation in the expressions of a part.
func isOp(p api.Part, op api.Op) bool {
	switch op.Kind {
	case api.Const:
		return span{-api.MaxValue, api.MaxValue}.has(op.Value)
	case api.InPort:
		return op.Value >= 0 && op.Value < len(p.In)
	case api.Kept:
		return op.Value >= 0 && op.Value < len(p.Keep)
	}
	return op.Kind >= api.Add && op.Kind <= api.If && op.Value == 0
}

// areValues reports whether there is a value within its range for each port, and no more.
func areValues(values []int, ports []api.Port) bool {
	if len(values) != len(ports) {
		return false
	}
	for i, v := range values {
		if !rangeOf(ports[i]).has(v) {
			return false
		}
	}
	return true
}

// checkLink returns the error of the link with a number in a design whose parts are right.
func checkLink(d api.Design, number int) api.Errno {
	l := d.Links[number]
	if l.From < 0 || l.From >= len(d.Parts) || !hasInput(d, l.To, l.In) {
		return api.ErrLink
	}
	from, to := d.Parts[l.From], d.Parts[l.To]
	if l.Out < 0 || l.Out >= len(from.Out) || isLinked(d.Links[:number], l.To, l.In) {
		return api.ErrLink
	}
	if !rangeOf(from.Out[l.Out]).within(rangeOf(to.In[l.In])) {
		return api.ErrLink
	}
	if from.Level < to.Level {
		return api.ErrLevel
	}
	return api.OK
}

// hasInput reports whether there is such a part and such an input of it.
func hasInput(d api.Design, part, in int) bool {
	return part >= 0 && part < len(d.Parts) && in >= 0 && in < len(d.Parts[part].In)
}

// isLinked reports whether one of some links leads to an input.
func isLinked(links []api.Link, part, in int) bool {
	return slices.ContainsFunc(links, func(l api.Link) bool { return l.To == part && l.In == in })
}
