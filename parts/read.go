package parts

import (
	"strconv"
	"strings"

	"ignition/api"
)

// The limits of what has the form of a number and of an expression.
const (
	maxDigits     = 7
	maxOperations = 1000
)

// misread is what a reader panics with where a line goes on wrongly.
type misread struct{}

// stage is how far a text has come: to certain lines of a part, or to the links.
type stage int

const (
	atNothing stage = iota
	atInputs        // or just behind the first line of a part
	atOutputs
	atKept
	atActs
	atLinks
)

// reader reads a design line by line.
type reader struct {
	design api.Design
	stage  stage
	acting bool   // whether an act lacks lines
	rest   string // of the line that is read
}

// read reads a line; it returns whether the line has its form, and may stand there.
func (r *reader) read(line string) (is bool) {
	defer func() {
		if p := recover(); p != nil {
			if _, known := p.(misread); !known {
				panic(p)
			}
		}
	}()
	r.rest = line
	if r.acting {
		r.result()
	} else {
		r.first(r.word())
	}
	if r.rest != "" {
		panic(misread{})
	}
	return true
}

// first reads what follows the first word of a line outside acts.
func (r *reader) first(word string) {
	switch word {
	case "part":
		r.enter(atNothing, atActs, atInputs)
		r.design.Parts = append(r.design.Parts, r.newPart())
	case "in":
		r.enter(atInputs, atInputs, atInputs)
		r.part().In = append(r.part().In, r.port())
	case "out":
		r.enter(atInputs, atOutputs, atOutputs)
		r.part().Out = append(r.part().Out, r.port())
	case "keep":
		r.enter(atInputs, atKept, atKept)
		r.part().Keep = append(r.part().Keep, r.port())
	case "act":
		r.enter(atInputs, atActs, atActs)
		r.part().Acts = append(r.part().Acts, api.Act{})
		r.acting = true
	case "link":
		r.enter(atInputs, atLinks, atLinks)
		r.design.Links = append(r.design.Links, r.link())
	default:
		panic(misread{})
	}
}

// enter goes to a stage, which may be done from the stages from least to most.
func (r *reader) enter(least, most, to stage) {
	if r.stage < least || r.stage > most {
		panic(misread{})
	}
	r.stage = to
}

// part returns the part that is read.
func (r *reader) part() *api.Part { return &r.design.Parts[len(r.design.Parts)-1] }

// expect reads a text.
func (r *reader) expect(text string) {
	rest, is := strings.CutPrefix(r.rest, text)
	if !is {
		panic(misread{})
	}
	r.rest = rest
}

// run reads the bytes for which is holds, from the first one on, up to one for which it does not.
func (r *reader) run(is func(c byte) bool) string {
	n := 0
	for n < len(r.rest) && is(r.rest[n]) {
		n++
	}
	text := r.rest[:n]
	r.rest = r.rest[n:]
	return text
}

// word reads a word of letters.
func (r *reader) word() string {
	word := r.run(isLetter)
	if word == "" {
		panic(misread{})
	}
	return word
}

// name reads a space and a name.
func (r *reader) name() string {
	r.expect(" ")
	return r.word()
}

// number reads a number.
func (r *reader) number() int {
	rest, negative := strings.CutPrefix(r.rest, "-")
	r.rest = rest
	digits := r.run(func(c byte) bool { return c >= '0' && c <= '9' })
	if digits == "" || len(digits) > maxDigits || digits[0] == '0' && (negative || len(digits) > 1) {
		panic(misread{})
	}
	n, _ := strconv.Atoi(digits)
	if negative {
		return -n
	}
	return n
}

// newPart reads the first line of a part from its name on.
func (r *reader) newPart() api.Part {
	p := api.Part{Name: r.name()}
	r.expect(" every ")
	p.Every = r.number()
	r.expect(" level ")
	p.Level = r.number()
	return p
}

// port reads a port from its name on.
func (r *reader) port() api.Port {
	p := api.Port{Name: r.name()}
	for _, n := range [3]*int{&p.Low, &p.High, &p.Start} {
		r.expect(" ")
		*n = r.number()
	}
	return p
}

// link reads a link from its first name on.
func (r *reader) link() api.Link {
	var l api.Link
	l.From = r.found(partNamed(r.design.Parts, r.name()))
	l.Out = r.found(portNamed(r.design.Parts[l.From].Out, r.name()))
	l.To = r.found(partNamed(r.design.Parts, r.name()))
	l.In = r.found(portNamed(r.design.Parts[l.To].In, r.name()))
	return l
}

// found returns the number of something that was looked for; a line that names what is not there goes on wrongly.
func (r *reader) found(number int) int {
	if number < 0 {
		panic(misread{})
	}
	return number
}

// result reads the line of an act whose turn it is.
func (r *reader) result() {
	p := r.part()
	a := &p.Acts[len(p.Acts)-1]
	switch {
	case len(a.Out) < len(p.Out):
		a.Out = append(a.Out, r.given(p.Out[len(a.Out)].Name))
	case len(a.Keep) < len(p.Keep):
		a.Keep = append(a.Keep, r.given(p.Keep[len(a.Keep)].Name))
	default:
		a.Next = r.given("next")
		r.acting = false
	}
}

// given reads a line that gives an expression to a name.
func (r *reader) given(name string) api.Expr {
	r.expect(name)
	r.expect(" = ")
	return api.Expr{Ops: r.term(nil)}
}

// term reads an expression, and appends its operations, operands first.
func (r *reader) term(ops []api.Op) []api.Op {
	var op api.Op
	switch {
	case strings.HasPrefix(r.rest, "("):
		op.Kind = r.operator()
		for range takes(op.Kind) {
			r.expect(" ")
			ops = r.term(ops)
		}
		r.expect(")")
	case r.rest != "" && isLetter(r.rest[0]):
		op = r.operand(r.word())
	default:
		op = api.Op{Kind: api.Const, Value: r.number()}
	}
	if len(ops) == maxOperations {
		panic(misread{})
	}
	return append(ops, op)
}

// operator reads a parenthesis and the sign of an operation.
func (r *reader) operator() int {
	r.expect("(")
	for kind := api.Add; kind <= api.If; kind++ {
		if strings.HasPrefix(r.rest, sign(kind)+" ") {
			r.expect(sign(kind))
			return kind
		}
	}
	panic(misread{})
}

// operand returns the operation that a name means.
func (r *reader) operand(name string) api.Op {
	if i := portNamed(r.part().In, name); i >= 0 {
		return api.Op{Kind: api.InPort, Value: i}
	}
	return api.Op{Kind: api.Kept, Value: r.found(portNamed(r.part().Keep, name))}
}
