package options

import "ignition/api"

// misread is what a reader panics with where a text does not have the form of a formula.
type misread struct{}

// reader reads a formula from a text.
type reader struct {
	text    string
	at      int
	numbers map[string]int // of the options, by their names
	formula api.Formula
	unknown bool // whether there was a name that is not that of an option
}

// read reads the whole text; it returns ErrForm unless it has the form of a formula.
func (r *reader) read() (e api.Errno) {
	defer func() {
		if p := recover(); p != nil {
			if _, is := p.(misread); !is {
				panic(p)
			}
			e = api.ErrForm
		}
	}()
	r.term()
	if r.at < len(r.text) {
		panic(misread{})
	}
	return api.OK
}

// next takes one byte.
func (r *reader) next() byte {
	if r.at == len(r.text) {
		panic(misread{})
	}
	r.at++
	return r.text[r.at-1]
}

// expect takes one byte, which has to be c.
func (r *reader) expect(c byte) {
	if r.next() != c {
		panic(misread{})
	}
}

// term reads a term, and appends it to the formula.
func (r *reader) term() {
	switch c := r.next(); {
	case c == '!':
		r.formula = append(r.formula, api.Not)
		r.term()
	case c == '(':
		r.pair()
	default:
		r.at--
		r.formula = append(r.formula, r.word())
	}
}

// pair reads what follows an opening parenthesis. The operator stands before its operands in the formula, but between them in the text.
func (r *reader) pair() {
	place := len(r.formula)
	r.formula = append(r.formula, 0)
	r.term()
	r.expect(' ')
	r.formula[place] = r.operator()
	r.expect(' ')
	r.term()
	r.expect(')')
}

// operator reads the sign of And, Or or Same.
func (r *reader) operator() int {
	switch r.next() {
	case '&':
		return api.And
	case '|':
		return api.Or
	case '=':
		return api.Same
	}
	panic(misread{})
}

// word reads yes, no or a name.
func (r *reader) word() int {
	from := r.at
	for r.at < len(r.text) && (isLetter(r.text[r.at]) || isDigit(r.text[r.at])) {
		r.at++
	}
	word := r.text[from:r.at]
	switch {
	case word == "yes":
		return api.Yes
	case word == "no":
		return api.No
	case !isName(word):
		panic(misread{})
	}
	number, is := r.numbers[word]
	r.unknown = r.unknown || !is
	return number
}
