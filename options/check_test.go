package options_test

import (
	"math"
	"math/rand"
	"strings"
	"testing"

	"ignition/api"
	"ignition/options"
)

// P1.1: names of options.
func TestNames(t *testing.T) {
	for _, name := range []string{"a", "z", "a0", "z9", "abcdefgh", "a1234567", "yess", "nope", "y", "n"} {
		m := model()
		m.Options[1] = name
		want(t, "CheckModel with the name "+name, options.CheckModel(m), api.OK)
	}
	for _, name := range []string{"", "yes", "no", "0", "1a", "Tow", "tOw", "tow", "led", "abcdefghi", "a-b", "a b", "a\n", "ä", "a\xff", "`", "{", "a/", "a:"} {
		m := model()
		m.Options[1] = name
		want(t, "CheckModel with the name "+name, options.CheckModel(m), api.ErrOption)
	}
}

// P1.1: limits of a model, and which of several errors comes first.
func TestCheckModel(t *testing.T) {
	want(t, "CheckModel without anything", options.CheckModel(api.Model{}), api.OK)
	want(t, "CheckModel of empty lists", options.CheckModel(api.Model{Options: []string{}, Rules: []api.Formula{}}), api.OK)
	want(t, "CheckModel of 40 options", options.CheckModel(free(api.MaxOptions)), api.OK)
	want(t, "CheckModel of 41 options", options.CheckModel(free(api.MaxOptions+1)), api.ErrMany)
	m := free(2)
	for range api.MaxRules {
		m.Rules = append(m.Rules, api.Formula{0})
	}
	want(t, "CheckModel of 60 rules", options.CheckModel(m), api.OK)
	m.Rules = append(m.Rules, api.Formula{0})
	want(t, "CheckModel of 61 rules", options.CheckModel(m), api.ErrMany)
	m.Options[0] = ""
	want(t, "CheckModel of 61 rules and a bad name", options.CheckModel(m), api.ErrMany)
	m.Rules = []api.Formula{nil}
	want(t, "CheckModel of a bad name and a bad rule", options.CheckModel(m), api.ErrOption)
	want(t, "CheckModel of a bad rule behind a good one", options.CheckModel(api.Model{Options: []string{"a"}, Rules: []api.Formula{{0}, {1}}}), api.ErrFormula)
}

// badFormulas are not valid for three options.
func badFormulas() []api.Formula {
	return []api.Formula{nil, {}, {3}, {-7}, {math.MinInt}, {math.MaxInt}, {api.Not}, {api.And, 0}, {api.Same, 0}, {0, 1}, {api.Yes, api.Not}, {api.Or, 0, 1, 2}, {api.Not, 0, 1}, nots(api.MaxFormula + 1), make(api.Formula, 1000)}
}

// P1.1: formulas.
func TestCheckFormula(t *testing.T) {
	for _, f := range []api.Formula{{0}, {2}, {api.Yes}, {api.No}, {api.Not, api.Not, 1}, {api.Same, api.Or, 0, 1, api.And, api.No, 2}, nots(api.MaxFormula)} {
		if e := options.CheckFormula(model(), f); e != api.OK {
			t.Errorf("CheckFormula of %v is %d", f, e)
		}
	}
	for _, f := range badFormulas() {
		if e := options.CheckFormula(model(), f); e != api.ErrFormula {
			t.Errorf("CheckFormula of %v is %d", f, e)
		}
	}
	want(t, "CheckFormula of an option without options", options.CheckFormula(api.Model{}, api.Formula{0}), api.ErrFormula)
	want(t, "CheckFormula of yes without options", options.CheckFormula(api.Model{}, yes), api.OK)
	want(t, "CheckFormula of a bad model and a bad formula", options.CheckFormula(api.Model{Options: []string{""}}, nil), api.ErrOption)
}

// P1.1, P1.7: texts of formulas, both ways.
func TestFormatParse(t *testing.T) {
	for _, x := range []struct {
		f    api.Formula
		text string
	}{
		{yes, "yes"},
		{api.Formula{api.No}, "no"},
		{api.Formula{1}, "heat"},
		{api.Formula{api.Not, api.Not, 1}, "!!heat"},
		{api.Formula{api.Not, api.And, 0, 2}, "!(tow & led)"},
		{api.Formula{api.Or, api.Not, 0, api.Same, 1, api.Yes}, "(!tow | (heat = yes))"},
		{api.Formula{api.Same, api.And, 0, 1, api.Or, 2, api.No}, "((tow & heat) = (led | no))"},
		{nots(api.MaxFormula), strings.Repeat("!", api.MaxFormula-1) + "tow"},
	} {
		text, e := options.Format(model(), x.f)
		want(t, "Format", text, x.text)
		want(t, "the error of Format", e, api.OK)
		f, e := options.Parse(model(), x.text)
		want(t, "Parse of "+x.text, f, x.f)
		want(t, "the error of Parse", e, api.OK)
	}
	for _, f := range badFormulas() {
		text, e := options.Format(model(), f)
		want(t, "Format of a bad formula", text, "")
		want(t, "the error of Format", e, api.ErrFormula)
	}
}

// P1.1: texts that Parse does not take, and which of several errors comes first.
func TestParseErrors(t *testing.T) {
	long := strings.Repeat("!", api.MaxText-3)
	for _, x := range []struct {
		text string
		e    api.Errno
	}{
		{"", api.ErrForm}, {" ", api.ErrForm}, {"tow ", api.ErrForm}, {" tow", api.ErrForm}, {"tow led", api.ErrForm}, {"tow\n", api.ErrForm},
		{"(tow & (heat|led))", api.ErrForm}, {"(tow & heat", api.ErrForm}, {"tow & heat", api.ErrForm}, {"(tow)", api.ErrForm}, {"(tow  & heat)", api.ErrForm},
		{"(tow + heat)", api.ErrForm}, {"(tow & heat))", api.ErrForm}, {"(tow & heat )", api.ErrForm}, {"( tow & heat)", api.ErrForm}, {"! tow", api.ErrForm},
		{"()", api.ErrForm}, {")", api.ErrForm}, {"!", api.ErrForm}, {"(", api.ErrForm}, {"(tow", api.ErrForm}, {"(tow ", api.ErrForm}, {"(tow &", api.ErrForm}, {"(tow & ", api.ErrForm},
		{"1a", api.ErrForm}, {"abcdefghi", api.ErrForm}, {"Tow", api.ErrForm}, {"tOw", api.ErrForm}, {"t\x00w", api.ErrForm}, {"\xff", api.ErrForm}, {"ä", api.ErrForm}, {"0", api.ErrForm}, {"-1", api.ErrForm},
		{"rain", api.ErrOption}, {"!rain1", api.ErrOption}, {"yes1", api.ErrOption}, {"noo", api.ErrOption}, {"abcdefgh", api.ErrOption}, {"(tow & rain)", api.ErrOption},
		{"(rain & )", api.ErrForm}, {"(rain & heat))", api.ErrForm}, {"(rain & abcdefghi)", api.ErrForm},
		{strings.Repeat("!", api.MaxFormula) + "tow", api.ErrFormula},
		{strings.Repeat("!", api.MaxFormula) + "rain", api.ErrOption},
		{strings.Repeat("!", api.MaxFormula), api.ErrForm},
		{long + "tow", api.ErrFormula}, {long + "cow", api.ErrOption}, {long + "to ", api.ErrForm}, {long + "!tow", api.ErrMany}, {strings.Repeat(" ", api.MaxText+1), api.ErrMany},
		{strings.Repeat("(", api.MaxText), api.ErrForm}, {strings.Repeat("a", api.MaxText), api.ErrForm},
	} {
		f, e := options.Parse(model(), x.text)
		if e != x.e || len(f) > 0 {
			t.Errorf("Parse of %.40q is %v, %d; it should be %d", x.text, f, e, x.e)
		}
	}
	_, e := options.Parse(api.Model{Options: []string{""}}, strings.Repeat("!", api.MaxText+1))
	want(t, "Parse with a bad model and a long text", e, api.ErrOption)
	_, e = options.Parse(api.Model{}, "a")
	want(t, "Parse of a name without options", e, api.ErrOption)
	f, e := options.Parse(api.Model{}, "!no")
	want(t, "Parse without options", f, api.Formula{api.Not, api.No})
	want(t, "the error of Parse", e, api.OK)
}

// P1.7: Parse of Format of a formula is the formula.
func TestParseOfFormat(t *testing.T) {
	randomly(t, func(r *rand.Rand, m api.Model) {
		f := randomFormula(r, len(m.Options), 1+r.Intn(20))
		text, e := options.Format(m, f)
		want(t, "the error of Format", e, api.OK)
		again, e := options.Parse(m, text)
		want(t, "Parse of "+text, again, f)
		want(t, "the error of Parse", e, api.OK)
	})
}
