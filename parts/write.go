package parts

import (
	"strconv"
	"strings"

	"ignition/api"
)

// write returns a valid design in the language.
func write(d api.Design) string {
	var b strings.Builder
	for _, p := range d.Parts {
		writePart(&b, p)
	}
	for _, l := range d.Links {
		from, to := d.Parts[l.From], d.Parts[l.To]
		writeLine(&b, "link", from.Name, from.Out[l.Out].Name, to.Name, to.In[l.In].Name)
	}
	return b.String()
}

// writeLine writes the words of a line.
func writeLine(b *strings.Builder, words ...string) {
	b.WriteString(strings.Join(words, " "))
	b.WriteString("\n")
}

// writePart writes the lines of a part.
func writePart(b *strings.Builder, p api.Part) {
	writeLine(b, "part", p.Name, "every", strconv.Itoa(p.Every), "level", strconv.Itoa(p.Level))
	writePorts(b, "in", p.In)
	writePorts(b, "out", p.Out)
	writePorts(b, "keep", p.Keep)
	for _, a := range p.Acts {
		writeLine(b, "act")
		for i, x := range a.Out {
			writeLine(b, p.Out[i].Name, "=", exprText(p, x))
		}
		for i, x := range a.Keep {
			writeLine(b, p.Keep[i].Name, "=", exprText(p, x))
		}
		writeLine(b, "next", "=", exprText(p, a.Next))
	}
}

// writePorts writes the lines of some ports.
func writePorts(b *strings.Builder, word string, ports []api.Port) {
	for _, p := range ports {
		writeLine(b, word, p.Name, strconv.Itoa(p.Low), strconv.Itoa(p.High), strconv.Itoa(p.Start))
	}
}

// exprText returns a well-formed expression of a part as text.
func exprText(p api.Part, x api.Expr) string {
	return carry(x, func(op api.Op, x, y, z string) string {
		switch op.Kind {
		case api.Const:
			return strconv.Itoa(op.Value)
		case api.InPort:
			return p.In[op.Value].Name
		case api.Kept:
			return p.Keep[op.Value].Name
		case api.If:
			return "(" + sign(op.Kind) + " " + x + " " + y + " " + z + ")"
		}
		return "(" + sign(op.Kind) + " " + x + " " + y + ")"
	})
}

// sign returns how an operation with operands is written.
func sign(kind int) string {
	switch kind {
	case api.Add:
		return "+"
	case api.Sub:
		return "-"
	case api.Mul:
		return "*"
	case api.Min:
		return "min"
	case api.Max:
		return "max"
	case api.Less:
		return "<"
	case api.Equal:
		return "="
	}
	return "if"
}
