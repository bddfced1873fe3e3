package parts_test

import (
	"fmt"
	"math/rand"
	"slices"
	"strings"
	"testing"

	"ignition/api"
	"ignition/parts"
)

// The texts of the examples.
const (
	brakeText = "part brake every 2 level 3\nin pedal 0 100 0\nout press 0 200 0\nkeep last 0 100 0\nact\npress = (+ pedal last)\nlast = pedal\nnext = 0\n"
	gaugeText = "part gauge every 1 level 2\nin p 0 200 9\nout q 0 200 7\nact\nq = p\nnext = 0\n"
	linkText  = "link brake press gauge p\n"
	head      = "part b every 1 level 0\nin i 0 9 0\nout o -9 9 0\nkeep k 0 9 0\nact\n" // the line 6 is that of o
	tail      = "k = 0\nnext = 0\n"
)

// formatOf returns all results of Format.
func formatOf(d api.Design) []any {
	s, e := parts.Format(d)
	return results(s, e)
}

// failed returns all results of Parse with an error.
func failed(line int, e api.Errno) []any { return results(api.Design{}, line, e) }

// parseOf returns all results of Parse.
func parseOf(s string) []any {
	d, line, e := parts.Parse(s)
	return results(d, line, e)
}

// P2.11: the text of a design.
func TestFormat(t *testing.T) {
	want(t, "Format of the pair", formatOf(pair()), results(brakeText+gaugeText+linkText, api.OK))
	want(t, "Format of nothing", formatOf(api.Design{}), results("", api.OK))
	want(t, "Format of a part without ports", formatOf(api.Design{Parts: []api.Part{wide("a", 0, 0, 0, 2)}}), results("part a every 1 level 0\nact\nnext = 0\nact\nnext = 0\n", api.OK))
	d := api.Design{Parts: []api.Part{switcher(), wide("link", 1, 1, 0, 1)}, Links: []api.Link{{From: 1, To: 1}}}
	d.Parts[1].In[0] = port("act", -1000000, 1000000, -5)
	d.Parts[1].Out[0] = port("next", -1000000, 1000000, 3)
	d.Parts[1].Acts[0].Out[0] = input(0)
	d.Links = append(d.Links[:0], api.Link{From: 1, To: 1})
	want(t, "Format of all sorts", formatOf(d), results("part switcher every 1 level 0\n"+
		"in i 0 9 4\nin j 0 2 1\nout o -99 99 5\nout p -99 99 6\nkeep k 0 9 7\nkeep l 0 9 8\n"+
		"act\no = k\np = l\nk = l\nl = k\nnext = 1\n"+
		"act\no = (+ k i)\np = (* l 10)\nk = i\nl = 3\nnext = j\n"+
		"act\no = -2\np = j\nk = 0\nl = i\nnext = (= k 0)\n"+
		"part link every 1 level 0\nin act -1000000 1000000 -5\nout next -1000000 1000000 3\nact\nnext = act\nnext = 0\n"+
		"link link next link act\n", api.OK))
}

// exprCases are expressions of the part of head, and their texts.
func exprCases() map[string]api.Expr {
	i, k := input(0), kept(0)
	return map[string]api.Expr{
		"i": i, "k": k, "0": num(0), "-1": num(-1), "9": num(9),
		"(+ i -9)": do(api.Add, i, num(-9)), "(- i k)": do(api.Sub, i, k), "(- k i)": do(api.Sub, k, i), "(* i -1)": do(api.Mul, i, num(-1)), "(min i k)": do(api.Min, i, k), "(max k -3)": do(api.Max, k, num(-3)), "(< i k)": do(api.Less, i, k), "(= k i)": do(api.Equal, k, i), "(if i k 5)": do(api.If, i, k, num(5)),
		"(min 9 (max -9 (* -1000000 1000000)))":           do(api.Min, num(9), do(api.Max, num(-9), do(api.Mul, num(-1000000), num(1000000)))),
		"(- (min 0 i) (max 0 (if k (= i 3) (if i 1 2))))": do(api.Sub, do(api.Min, num(0), i), do(api.Max, num(0), do(api.If, k, do(api.Equal, i, num(3)), do(api.If, i, num(1), num(2))))),
	}
}

// P2.11, P2.12: every expression has its text, and every text its expression.
func TestExpressions(t *testing.T) {
	for s, x := range exprCases() {
		d, line, e := parts.Parse(head + "o = " + s + "\n" + tail)
		want(t, "Parse of "+s, results(line, e), results(0, api.OK))
		if e != api.OK {
			continue
		}
		want(t, "the expression "+s, d.Parts[0].Acts[0].Out[0], x)
		d.Parts[0].Acts[0].Out[0] = x
		want(t, "Format of "+s, formatOf(d), results(head+"o = "+s+"\n"+tail, api.OK))
	}
}

// P2.11: the errors are those of CheckDesign.
func TestFormatErrors(t *testing.T) {
	d := pair()
	d.Links[0].In = 1
	want(t, "Format of a bad link", formatOf(d), results("", api.ErrLink))
	d.Parts[1].Acts[0].Out[0] = ops()
	want(t, "Format of a bad expression", formatOf(d), results("", api.ErrExpr))
	want(t, "Format of many parts", formatOf(many(13)), results("", api.ErrMany))
	d = pair()
	d.Parts[1].Level = 4
	want(t, "Format of a bad level", formatOf(d), results("", api.ErrLevel))
}

// P2.12: what a text becomes.
func TestParse(t *testing.T) {
	want(t, "Parse of the pair", parseOf(brakeText+gaugeText+linkText), results(pair(), 0, api.OK))
	want(t, "Parse of nothing", parseOf(""), results(api.Design{}, 0, api.OK))
	want(t, "Parse of a part without ports", parseOf("part a every 1 level 0\nact\nnext = 0\n"), results(api.Design{Parts: []api.Part{wide("a", 0, 0, 0, 1)}}, 0, api.OK))
	words := "part part every 1 level 0\nin in 0 9 0\nin link 0 0 0\nout out 0 9 0\nout next 0 9 0\nkeep keep 0 9 0\nkeep act 0 9 0\nact\nout = in\nnext = (min keep act)\nkeep = link\nact = 0\nnext = 0\nlink part out part in\n"
	d, line, e := parts.Parse(words)
	want(t, "Parse of names that are words", results(line, e), results(0, api.OK))
	want(t, "Format of names that are words", formatOf(d), results(words, api.OK))
	want(t, "the link of names that are words", d.Links, []api.Link{{}})
}

// P2.12: lines that do not have the form described.
func TestParseForm(t *testing.T) {
	for _, line := range []string{
		"", " ", "part", "part ", "part b", "part c every", "part c every 1", "part c every 1 level", "part c every 1 level ", "part c every 1 level 0 ", " part c every 1 level 0", "part  c every 1 level 0", "part c  every 1 level 0", "part c every  1 level 0", "part c every 1  level 0", "part c every 1 level  0",
		"part c every 01 level 0", "part c every +1 level 0", "part c every 1 level -0", "part c every 1 level 00", "part c every 12345678 level 0", "part c every -12345678 level 0", "part c every x level 0", "part c every  level 0", "part c every - level 0", "part c every --1 level 0", "part c every 1- level 0", "part c every 1x level 0", "part c every 1.0 level 0",
		"part  every 1 level 0", "part C every 1 level 0", "part c1 every 1 level 0", "part c level 0 every 1", "part cé every 1 level 0", "part c\tevery 1 level 0", "part c every 1 level 0\r", "Part c every 1 level 0", "parts c every 1 level 0", "par c every 1 level 0", "part c every 1 level 0\x00", "part {c every 1 level 0", "part `c every 1 level 0",
		"in", "in j", "in j 0", "in j 0 9", "in j 0 9 ", "in j 0 9 0 ", "in j 0 9 0 0", "in j  0 9 0", "in j 0  9 0", "in  0 9 0", "in J 0 9 0", "in 0 9 0", "inj 0 9 0", "in j 09 9 0", "in j 0 9 12345678", "in j 0 9 -0",
		"out", "out p 0 9", "out p 0 9 0 0", "out 7 0 9 0", "outp 0 9 0", "keep", "keep l 0 9", "keep l 0 9 0 0", "keep l 0 9 x",
		"act ", " act", "act 0", "acts", "ac", "Act", "# no", "o = i", "next = 0", "k = 0", "link", "link b o b i",
	} {
		s := "part b every 1 level 0\nin i 0 9 0\n" + line + "\n"
		want(t, "Parse of a line like "+line, parseOf(s), failed(3, api.ErrForm))
		want(t, "Parse of another line behind "+line, parseOf(s+"x\n"), failed(3, api.ErrForm))
		want(t, "Parse of no line feed behind "+line, parseOf(s+"x"), failed(3, api.ErrForm))
	}
}

// P2.12: expressions that do not have the form described.
func TestParseExpressionForm(t *testing.T) {
	for _, x := range []string{
		"", " ", " i", "i ", "x", "o", "next", "I", "i1", "ii", "1i", "i i", "-i", "00", "01", "-0", "-01", "+1", "--1", "-", "12345678", "-12345678", "1.5", "1 ", "1-", "1-1",
		"(", ")", "()", "(i)", "(+)", "(+ )", "(+ i)", "(+ i )", "(+ i k", "(+ i k ", "(+ i k )", "(+ i k))", "((+ i k)", "((+ i k))", "(+ i k i)", "(+  i k)", "(+ i  k)", "( + i k)", "(+i k)", "(i + k)", "(+ ik)", "(+ i,k)", "(+\ti k)", "(+ i k) ", "(+ i k)i", "(+ (+ i k)", "(+ i(+ i k))",
		"(/ i k)", "(> i k)", "(<= i k)", "(== i k)", "(Min i k)", "(mini i k)", "(mi i k)", "(ma i k)", "(min i)", "(min i k 0)", "(max i)", "(max i k 0)", "(if i k)", "(if i k 0 0)", "(if i)", "(iff i k 0)", "(not i)", "(< i)", "(= i)", "(- i)", "(- i k 0)", "(-1 i)", "(* i)", "(i i k)", "(1 2 3)",
		"(+ i x)", "(+ x i)", "(+ i o)", "(+ i 00)", "(+ -0 i)", "(if 1 2 (+ 3 x))", "i = 0", "i\r",
	} {
		for _, first := range []string{"o = " + x + "\n", "o = 0\nk = " + x + "\n", "o = 0\nk = 0\nnext = " + x + "\n"} {
			line := 5 + strings.Count(first, "\n")
			want(t, "Parse of an expression like "+x, parseOf(head+first), failed(line, api.ErrForm))
			want(t, "Parse of another line behind an expression like "+x, parseOf(head+first+"x\n"), failed(line, api.ErrForm))
		}
	}
	for _, line := range []string{"", "o", "o =", "o = ", "o 0", "o= 0", "o =0", "o  = 0", "o =  0", " o = 0", "O = 0", "oo = 0", "p = 0", "k = 0", "i = 0", "next = 0", "act", "o = 0 ", "=", "= 0", "part c every 1 level 0", "link b o b i", "out o 0 9 0", "o:= 0", "o == 0"} {
		want(t, "Parse of a line for o like "+line, parseOf(head+line+"\n"), failed(6, api.ErrForm))
	}
	for _, line := range []string{"", "k", "o = 0", "next = 0", "i = 0", "kk = 0", "act", "keep l 0 9 0"} {
		want(t, "Parse of a line for k like "+line, parseOf(head+"o = 0\n"+line+"\n"), failed(7, api.ErrForm))
	}
	for _, line := range []string{"", "next", "k = 0", "o = 0", "act", "nextt = 0", "nex = 0", "next = o", "part c every 1 level 0", "link b o b i"} {
		want(t, "Parse of a line for next like "+line, parseOf(head+"o = 0\nk = 0\n"+line+"\n"), failed(8, api.ErrForm))
	}
}

// P2.12: which lines may follow which ones.
func TestParseOrder(t *testing.T) {
	const first, in, out, keep, act, link = "part b every 1 level 0\n", "in i 0 9 0\n", "out o 0 9 0\n", "keep k 0 9 0\n", "act\no = 0\nk = 0\nnext = 0\n", "link b o b i\n"
	all := first + in + out + keep + act
	for s, line := range map[string]int{
		in: 1, out: 1, keep: 1, "act\n": 1, "next = 0\n": 1, link: 1, "\n": 1,
		first + out + in: 3, first + keep + in: 3, first + in + keep + out: 4, first + "act\nnext = 0\n" + in: 4, first + "act\nnext = 0\n" + out: 4, first + "act\nnext = 0\n" + keep: 4, first + "act\nnext = 0\nnext = 0\n": 4, first + link: 2,
		all + in: 9, all + out: 9, all + keep: 9, all + "k = 0\n": 9, all + "next = 0\n": 9, all + "\n": 9, all + "link b o b o\n": 9, all + "link b i b i\n": 9, all + "link b k b i\n": 9, all + "link b o b k\n": 9, all + "link c o b i\n": 9, all + "link b o c i\n": 9, all + "link b b o i\n": 9, all + "link b o b\n": 9, all + "link b o b i b\n": 9, all + "link b o b i \n": 9, all + "link b  o b i\n": 9, all + "link 0 0 0 0\n": 9,
		all + link + first: 10, all + link + in: 10, all + link + out: 10, all + link + keep: 10, all + link + "act\n": 10, all + link + act: 10, all + link + "\n": 10,
		all + "link b o c i\n" + "part c every 1 level 0\nin i 0 9 0\nact\nnext = 0\n": 9,
	} {
		want(t, "Parse of "+s, parseOf(s), failed(line, api.ErrForm))
	}
	for s, e := range map[string]api.Errno{
		first: api.ErrPart, first + in: api.ErrPart, first + in + out + keep: api.ErrPart, first + first: api.ErrPart, first + keep + act[:0]: api.ErrPart, all: api.OK, all + act: api.OK, all + link: api.OK, all + link + link: api.ErrLink, all + first: api.ErrPart, all + all: api.ErrPart, all + first + link: api.ErrPart, first + "act\nnext = 0\n": api.OK, first + in + in + "act\nnext = 0\n": api.ErrPort,
		first + "act\nnext = 0\nact\nnext = 1\nact\nnext = 2\nact\nnext = 3\n": api.OK, first + strings.Repeat("act\nnext = 0\n", 5): api.ErrPart, first + strings.Repeat(in, 7) + "act\nnext = 0\n": api.ErrPart,
	} {
		_, line, f := parts.Parse(s)
		want(t, "Parse of "+s, results(line, f), results(0, e))
	}
}

// P2.12: a line ends with a line feed, and an act has all its lines.
func TestParseEnds(t *testing.T) {
	for s, line := range map[string]int{
		"part b every 1 level 0": 1, "x": 1, "part b every 1 level 0\nact": 2, brakeText[:len(brakeText)-1]: 8, brakeText + " ": 9, brakeText + "a": 9, brakeText + gaugeText + linkText[:len(linkText)-1]: 15,
		"part b every 1 level 0\nact\n": 3, head: 6, head + "o = 0\n": 7, head + "o = 0\nk = 0\n": 8, head + "o = 0\nk = 0": 7, head + "o = 0\nk = 0\nnext = 0": 8, head + "o = 0\n" + tail + "act\n": 10, brakeText + "act\n": 10,
	} {
		want(t, "Parse of "+s, parseOf(s), failed(line, api.ErrForm))
	}
}

// P2.12: what has the form is read first, and then looked at by CheckDesign.
func TestParseErrors(t *testing.T) {
	for s, e := range map[string]api.Errno{
		"part abcdefghi every 1 level 0\nact\nnext = 0\n": api.ErrPart, "part b every 0 level 0\nact\nnext = 0\n": api.ErrPart, "part b every -1 level 0\nact\nnext = 0\n": api.ErrPart, "part b every 1 level -3\nact\nnext = 0\n": api.ErrPart, "part b every 9999999 level 9999999\nact\nnext = 0\n": api.ErrPart,
		"part b every 1 level 0\nin i 1 0 0\nact\nnext = 0\n": api.ErrPort, "part b every 1 level 0\nin abcdefghi 0 0 0\nact\nnext = 0\n": api.ErrPort, "part b every 1 level 0\nin i 0 9999999 0\nact\nnext = 0\n": api.ErrPort, "part b every 1 level 0\nin i -9999999 0 0\nact\nnext = 0\n": api.ErrPort, "part b every 1 level 0\nin i -1000000 1000000 0\nact\nnext = 0\n": api.OK,
		"part b every 1 level 0\nin i 0 0 0\nkeep i 0 0 0\nact\ni = i\nnext = 0\n": api.ErrPort, "part b every 1 level 0\nout i 0 0 0\nkeep i 0 0 0\nact\ni = 0\ni = i\nnext = 0\n": api.ErrPort,
		head + "o = 10\n" + tail: api.ErrRange, head + "o = 1000001\n" + tail: api.ErrExpr, head + "o = -9999999\n" + tail: api.ErrExpr, head + "o = -9\n" + tail: api.OK, head + "o = 0\nk = 0\nnext = 1\n": api.ErrRange,
		brakeText + gaugeText + linkText + linkText: api.ErrLink, brakeText + gaugeText + "link gauge q brake pedal\n": api.ErrLink, brakeText + strings.Replace(gaugeText, "level 2", "level 4", 1) + linkText: api.ErrLevel,
		strings.Repeat("part b every 1 level 0\nact\nnext = 0\n", 13): api.ErrMany, brakeText + brakeText: api.ErrPart, brakeText + gaugeText + strings.Repeat(linkText, 41): api.ErrMany,
	} {
		want(t, "Parse of "+s, parseOf(s)[1:], results(0, e))
		if e != api.OK {
			want(t, "Parse of "+s, parseOf(s), failed(0, e))
		}
	}
	bad := brakeText + strings.Repeat("part b every 0 level 0\n", 20)
	want(t, "Parse of bad parts, and a bad line", parseOf(bad+"x\n"), failed(29, api.ErrForm))
}

// P2.12: of several parts and ports with a name the first ones are meant, and inputs before what is kept.
func TestParseFirst(t *testing.T) {
	const two = "part a every 1 level 0\nin i 0 9 0\nout o 0 9 0\nact\no = 0\nnext = 0\npart a every 1 level 0\nin j 0 9 0\nout p 0 9 0\nact\np = 0\nnext = 0\n"
	want(t, "Parse of a link to the first part", parseOf(two+"link a o a i\n"), failed(0, api.ErrPart))
	want(t, "Parse of a link to the second part", parseOf(two+"link a o a j\n"), failed(13, api.ErrForm))
	want(t, "Parse of a link from the second part", parseOf(two+"link a p a i\n"), failed(13, api.ErrForm))
	// What is meant cannot be seen where names are doubled, since CheckDesign returns an error; a name of an output does not hide one of an input.
	want(t, "Parse of an output's name", parseOf("part a every 1 level 0\nout o 0 9 0\nact\no = o\nnext = 0\n"), failed(4, api.ErrForm))
	want(t, "Parse of a name of an output and an input", parseOf("part a every 1 level 0\nin o 0 9 0\nout o 0 9 0\nact\no = o\nnext = 0\nlink a o a o\n"), failed(0, api.ErrPort))
}

// P2.12: how long a text and an expression may be.
func TestParseLimits(t *testing.T) {
	long := strings.Repeat("x", 65536)
	want(t, "Parse of 65536 bytes", parseOf(long), failed(1, api.ErrForm))
	want(t, "Parse of 65537 bytes", parseOf(long+"x"), failed(0, api.ErrMany))
	padded := func(n int) string {
		name := strings.Repeat("a", n-len(brakeText)-len("part  every 1 level 0\nact\nnext = 0\n"))
		return brakeText + "part " + name + " every 1 level 0\nact\nnext = 0\n"
	}
	want(t, "Parse of a text of 65536 bytes", parseOf(padded(65536)), failed(0, api.ErrPart))
	want(t, "Parse of a text of 65537 bytes", parseOf(padded(65537)), failed(0, api.ErrMany))
	sum := func(n int) string { return strings.Repeat("(+ 1 ", n) + "1" + strings.Repeat(")", n) }
	text := func(x string) string { return head + "o = " + x + "\n" + tail }
	want(t, "Parse of 999 operations", parseOf(text(sum(499))), failed(0, api.ErrExpr))
	want(t, "Parse of 1000 operations", parseOf(text("(if 1 1 "+sum(498)+")")), failed(0, api.ErrExpr))
	want(t, "Parse of 1001 operations", parseOf(text(sum(500))), failed(6, api.ErrForm))
	want(t, "Parse of 1001 operations, otherwise", parseOf(text("(+ "+sum(249)+" "+sum(250)+")")), failed(6, api.ErrForm))
	want(t, "Parse of twice 999 operations", parseOf(head+"o = "+sum(499)+"\nk = "+sum(499)+"\nnext = 0\n"), failed(0, api.ErrExpr))
	want(t, "Parse of 23 operations", parseOf(head + "o = (min 9 " + sum(10) + ")\n" + tail)[1:], results(0, api.OK))
	want(t, "Parse of 25 operations", parseOf(head + "o = (min 9 " + sum(11) + ")\n" + tail)[1:], results(0, api.ErrExpr))
	deep := head + "o = "
	want(t, "Parse of deep expressions", parseOf(deep+strings.Repeat("(+ ", (65000-len(deep))/3)+"\n"), failed(6, api.ErrForm))
	want(t, "Parse of only parentheses", parseOf(deep+strings.Repeat("(", 65000-len(deep))+"\n"), failed(6, api.ErrForm))
}

// P2.17: Parse is the inverse of Format, if the text is not too long.
func TestRandomText(t *testing.T) {
	randomly(t, 1000, func(r *rand.Rand, d api.Design) {
		s, e := parts.Format(d)
		want(t, "the error of Format", e, api.OK)
		want(t, "Format", s, designText(d))
		want(t, "Parse of Format", parseOf(s), results(d, 0, api.OK))
	})
	full := many(12)
	for i := range full.Parts {
		p := wide(letters(i), 6, 6, 6, 4)
		for a := range p.Acts {
			for k := range p.Out {
				x := num(5)
				for len(x.Ops) < 23 {
					x = do(api.Max, num(-1000000), x)
				}
				p.Acts[a].Out[k], p.Acts[a].Keep[k] = x, x
			}
		}
		full.Parts[i] = p
	}
	s, e := parts.Format(full)
	want(t, "Format of a large design", results(s, e), results(designText(full), api.OK))
	want(t, "Parse of more than 65536 bytes", parseOf(s), failed(0, api.ErrMany))
	full.Parts = full.Parts[:6]
	s, _ = parts.Format(full)
	want(t, "Parse of a large design", parseOf(s), results(full, 0, api.OK))
}

// designText is the plain definition of Format.
func designText(d api.Design) string {
	var b strings.Builder
	line := func(words ...any) { b.WriteString(fmt.Sprintln(words...)) }
	for _, p := range d.Parts {
		line("part", p.Name, "every", p.Every, "level", p.Level)
		for i, list := range [][]api.Port{p.In, p.Out, p.Keep} {
			for _, o := range list {
				line([]string{"in", "out", "keep"}[i], o.Name, o.Low, o.High, o.Start)
			}
		}
		for _, a := range p.Acts {
			line("act")
			for i, x := range slices.Concat(a.Out, a.Keep) {
				line(slices.Concat(p.Out, p.Keep)[i].Name, "=", text(p, x.Ops))
			}
			line("next", "=", text(p, a.Next.Ops))
		}
	}
	for _, l := range d.Links {
		line("link", d.Parts[l.From].Name, d.Parts[l.From].Out[l.Out].Name, d.Parts[l.To].Name, d.Parts[l.To].In[l.In].Name)
	}
	return b.String()
}

// spoil changes a byte of a text, or takes one away, or puts one in, or doubles or drops or swaps lines.
func spoil(r *rand.Rand, s string) string {
	const bytes = "abinkop =()+-*<0123459\n"
	at := r.Intn(len(s))
	c := string(bytes[r.Intn(len(bytes))])
	lines := strings.SplitAfter(s, "\n")
	i, k := r.Intn(len(lines)), r.Intn(len(lines))
	switch r.Intn(6) {
	case 0:
		return s[:at] + s[at+1:]
	case 1:
		return s[:at] + c + s[at:]
	case 2:
		return s[:at] + c + s[at+1:]
	case 3:
		lines[i], lines[k] = lines[k], lines[i]
	case 4:
		lines = slices.Insert(lines, i, lines[k])
	case 5:
		lines = slices.Delete(lines, i, i+1)
	}
	return strings.Join(lines, "")
}

// P2.12: wherever Parse returns a design, the text is that of Format; and the line of an error is the first one with which a text becomes wrong.
func TestSpoiledTexts(t *testing.T) {
	count := map[api.Errno]int{}
	randomly(t, 3000, func(r *rand.Rand, d api.Design) {
		s, _ := parts.Format(d)
		for range 1 + r.Intn(2) {
			if s != "" {
				s = spoil(r, s)
			}
		}
		d, line, e := parts.Parse(s)
		count[e]++
		if e == api.OK {
			want(t, "Format of a design that was read", formatOf(d), results(s, api.OK))
		}
		if e != api.ErrForm {
			want(t, "the line of "+s, line, 0)
			return
		}
		lines := strings.SplitAfter(s, "\n")
		if line > len(lines) || lines[line-1] == "" {
			want(t, "the line of a text that ends in an act", line, strings.Count(s, "\n")+1)
			return
		}
		want(t, "Parse up to the line", parseOf(strings.Join(lines[:line], "")), failed(line, api.ErrForm))
		if f := parseOf(strings.Join(lines[:line-1], "")); f[2] == api.ErrForm && f[1] != line {
			t.Errorf("Parse of %q up to the line before is %v", s, f)
		}
	})
	if count[api.OK] < 100 || count[api.ErrForm] < 100 || len(count) < 5 {
		t.Errorf("the errors are %v", count)
	}
}
