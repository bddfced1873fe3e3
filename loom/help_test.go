package loom_test

import (
	"fmt"
	"math/rand"
	"slices"
	"strconv"
	"testing"

	"ignition/api"
	"ignition/loom"
)

// The tests compare the package with plain definitions, which try all variants one by one and find routes by distances alone.

// example is the loom of the chapter's examples.
func example() api.Loom {
	return api.Loom{
		Model: api.Model{Options: []string{"tow", "heat"}},
		Spots: []api.Spot{{}, {X: 100}, {X: 100, Y: 50}, {X: 200}},
		Runs:  []api.Run{{A: 0, B: 1, Length: 110, Room: 5}, {A: 1, B: 2, Length: 50, Room: 3}, {A: 1, B: 3, Length: 100, Room: 3}},
		Plugs: []api.Plug{{Name: "a", Cavities: 2}, {Name: "b", Spot: 2, Cavities: 2}, {Name: "c", Spot: 3, Cavities: 2}},
		Wires: []api.Wire{
			{Name: "x", To: api.Pin{Plug: 1}, Size: 2, Form: api.Formula{0}},
			{Name: "y", From: api.Pin{Cavity: 1}, To: api.Pin{Plug: 2}, Size: 2, Form: api.Formula{1}},
			{Name: "z", To: api.Pin{Plug: 2, Cavity: 1}, Size: 1, Form: api.Formula{1}},
		},
	}
}

// changed returns the loom of the examples with changes.
func changed(changes ...func(l *api.Loom)) api.Loom {
	l := example()
	for _, change := range changes {
		change(&l)
	}
	return l
}

// ruled returns the loom of the examples with rules.
func ruled(rules ...api.Formula) api.Loom {
	return changed(func(l *api.Loom) { l.Model.Rules = rules })
}

// named returns a name for each number below 26 * 26.
func named(i int) string { return string([]byte{'a' + byte(i/26), 'a' + byte(i%26)}) }

// free returns a model of n options without rules.
func free(n int) api.Model {
	var m api.Model
	for i := range n {
		m.Options = append(m.Options, "o"+strconv.Itoa(i))
	}
	return m
}

// nots returns a formula of n numbers, the last of which is Yes.
func nots(n int) api.Formula {
	f := slices.Repeat(api.Formula{api.Not}, n)
	f[n-1] = api.Yes
	return f
}

// line returns a loom of n spots in a line, each 10 from the one before.
func line(n int) api.Loom {
	var l api.Loom
	for i := range n {
		l.Spots = append(l.Spots, api.Spot{X: 10 * i})
		if i > 0 {
			l.Runs = append(l.Runs, api.Run{A: i - 1, B: i, Length: 10})
		}
	}
	return l
}

// greatest returns a loom in which there is as much of everything as there may be: a plug with 40 cavities at each of the first 30 of 40 spots
// in a line, and 60 wires, each from a cavity of its own of the first plug or the second one to the last plug or the one before.
func greatest() api.Loom {
	l := line(api.MaxSpots)
	l.Model = free(api.MaxOptions)
	for i := range api.MaxPlugs {
		l.Plugs = append(l.Plugs, api.Plug{Name: named(i), Spot: i, Cavities: api.MaxCavities})
	}
	for i := range api.MaxWires {
		l.Wires = append(l.Wires, api.Wire{
			Name: named(i), From: api.Pin{Plug: i / 40, Cavity: i % 40}, To: api.Pin{Plug: 29 - i/40, Cavity: i % 40}, Size: 1, Form: api.Formula{i % 40},
		})
	}
	return l
}

// value works out the first term of a formula, and returns what is behind it.
func value(f api.Formula, v []bool) (is bool, rest api.Formula) {
	number, rest := f[0], f[1:]
	var x, y bool
	switch number {
	case api.Yes, api.No:
		return number == api.Yes, rest
	case api.Not:
		x, rest = value(rest, v)
		return !x, rest
	case api.And, api.Or, api.Same:
		x, rest = value(rest, v)
		y, rest = value(rest, v)
	default:
		return v[number], rest
	}
	return number == api.And && x && y || number == api.Or && (x || y) || number == api.Same && x == y, rest
}

// holds is the plain definition of a formula that holds.
func holds(f api.Formula, v []bool) bool {
	is, _ := value(f, v)
	return is
}

// variants returns all variants of n options, in order.
func variants(n int) [][]bool {
	l := make([][]bool, 1<<n)
	for i := range l {
		l[i] = make([]bool, n)
		for option := range n {
			l[i][option] = i>>(n-1-option)&1 == 1
		}
	}
	return l
}

// built returns the buildable variants of a loom, in order.
func built(l api.Loom) [][]bool {
	return slices.DeleteFunc(variants(len(l.Model.Options)), func(v []bool) bool {
		return slices.ContainsFunc(l.Model.Rules, func(f api.Formula) bool { return !holds(f, v) })
	})
}

// distances is the plain definition of the distances of all spots: the ways by way of the first spots become ever shorter.
func distances(l api.Loom) [][]int {
	far := make([][]int, len(l.Spots))
	for a := range far {
		far[a] = slices.Repeat([]int{1 << 40}, len(far))
		far[a][a] = 0
	}
	for _, r := range l.Runs {
		far[r.A][r.B], far[r.B][r.A] = r.Length, r.Length
	}
	for by := range far {
		for a := range far {
			for b := range far {
				far[a][b] = min(far[a][b], far[a][by]+far[by][b])
			}
		}
	}
	return far
}

// ends returns the spots of a wire.
func ends(l api.Loom, w api.Wire) (from, to int) {
	return l.Plugs[w.From.Plug].Spot, l.Plugs[w.To.Plug].Spot
}

// route is the plain definition of a route: all spots that are on the way, by how far they are.
func route(l api.Loom, w api.Wire) []int {
	from, to := ends(l, w)
	far := distances(l)
	var spots []int
	for s := range far {
		if far[from][s]+far[s][to] == far[from][to] {
			spots = append(spots, s)
		}
	}
	slices.SortFunc(spots, func(a, b int) int { return far[from][a] - far[from][b] })
	return spots
}

// uses is the plain definition of a wire whose route uses a run: the ends of the run are neighbours on it.
func uses(l api.Loom, w api.Wire, run int) bool {
	spots := route(l, w)
	a, b := slices.Index(spots, l.Runs[run].A), slices.Index(spots, l.Runs[run].B)
	return a >= 0 && b >= 0 && (a-b == 1 || b-a == 1)
}

// carried is the plain definition of the wires of a variant in a run.
func carried(l api.Loom, run int, v []bool) []int {
	var wires []int
	for i, w := range l.Wires {
		if holds(w.Form, v) && uses(l, w, run) {
			wires = append(wires, i)
		}
	}
	return wires
}

// fill is the plain definition of how much of a run a variant fills.
func fill(l api.Loom, run int, v []bool) int {
	sum := 0
	for _, i := range carried(l, run, v) {
		sum += l.Wires[i].Size
	}
	return sum
}

// worst is the plain definition of what Worst returns.
func worst(l api.Loom, run int) []any {
	most, e := -1, api.ErrBuild
	var first []bool
	for _, v := range built(l) {
		if n := fill(l, run, v); n > most {
			most, first, e = n, v, api.OK
		}
	}
	return results(max(most, 0), first, e)
}

// among returns a number from low to high, often one of the two.
func among(r *rand.Rand, low, high int) int {
	switch r.Intn(8) {
	case 0:
		return low
	case 1:
		return high
	}
	return low + r.Intn(high-low+1)
}

// randomFormula returns a formula with at most so many operands.
func randomFormula(r *rand.Rand, n, size int) api.Formula {
	if r.Intn(4) == 0 {
		return append(api.Formula{api.Not}, randomFormula(r, n, size)...)
	}
	if size < 2 {
		if n == 0 || r.Intn(8) == 0 {
			return api.Formula{api.No + r.Intn(2)}
		}
		return api.Formula{r.Intn(n)}
	}
	left := 1 + r.Intn(size-1)
	f := append(api.Formula{api.Same + r.Intn(3)}, randomFormula(r, n, left)...)
	return append(f, randomFormula(r, n, size-left)...)
}

// randomTree adds spots to a loom, some of them at the same place, and runs that join them, in any order and direction.
func randomTree(r *rand.Rand, l *api.Loom, n int) {
	numbers := r.Perm(n)
	l.Spots = make([]api.Spot, n)
	for i, spot := range numbers {
		l.Spots[spot] = api.Spot{X: among(r, -9, 9), Y: among(r, -9, 9), Z: among(r, -9, 9)}
		if i == 0 {
			continue
		}
		run := api.Run{A: spot, B: numbers[r.Intn(i)], Length: 32 + r.Intn(9), Room: among(r, 0, 20)}
		if r.Intn(2) == 0 {
			run.A, run.B = run.B, run.A
		}
		l.Runs = append(l.Runs, run)
	}
	r.Shuffle(len(l.Runs), func(i, k int) { l.Runs[i], l.Runs[k] = l.Runs[k], l.Runs[i] })
}

// randomLoom returns a valid loom of at most 8 spots, 4 options, 5 plugs and 8 wires; most of them have buildable variants.
func randomLoom(r *rand.Rand) api.Loom {
	l := api.Loom{Model: free(r.Intn(5))}
	n := len(l.Model.Options)
	for range r.Intn(3) {
		l.Model.Rules = append(l.Model.Rules, randomFormula(r, n, 1+r.Intn(3)))
	}
	randomTree(r, &l, 1+r.Intn(8))
	for i := range r.Intn(6) {
		l.Plugs = append(l.Plugs, api.Plug{Name: named(i), Spot: r.Intn(len(l.Spots)), Cavities: 2 + r.Intn(3)})
	}
	pin := func() api.Pin {
		plug := r.Intn(len(l.Plugs))
		return api.Pin{Plug: plug, Cavity: r.Intn(l.Plugs[plug].Cavities)}
	}
	for i := range r.Intn(9) {
		if len(l.Plugs) == 0 {
			break
		}
		w := api.Wire{Name: named(i), From: pin(), To: pin(), Size: among(r, 1, 9), Form: randomFormula(r, n, 1+r.Intn(3))}
		for w.To == w.From {
			w.To = pin()
		}
		l.Wires = append(l.Wires, w)
	}
	return l
}

// randomSpots returns from 1 to 5 spots of a loom.
func randomSpots(r *rand.Rand, l api.Loom) []int {
	spots := make([]int, 1+r.Intn(5))
	for i := range spots {
		spots[i] = r.Intn(len(l.Spots))
	}
	return spots
}

// randomly calls what looks at some random looms many times.
func randomly(t *testing.T, look func(r *rand.Rand, l api.Loom)) {
	t.Helper()
	r := rand.New(rand.NewSource(6))
	for range 500 {
		l := randomLoom(r)
		if e := loom.Check(l); e != api.OK {
			t.Fatalf("Check of %+v: %d", l, e)
		}
		look(r, l)
		if t.Failed() {
			t.Fatalf("with the loom %+v", l)
		}
	}
}

// want reports a result that is not what it should be; nil and empty lists are the same.
func want(t *testing.T, what string, got, should any) {
	t.Helper()
	if g, s := fmt.Sprint(got), fmt.Sprint(should); g != s {
		t.Errorf("%s is %s; it should be %s", what, g, s)
	}
}

// results makes one value of several results.
func results(l ...any) []any { return l }

// The functions below make one value of what the functions of the package return.

func routeOf(l api.Loom, wire int) []any {
	spots, e := loom.Route(l, wire)
	return results(spots, e)
}

func lengthOf(l api.Loom, wire int) []any {
	n, e := loom.Length(l, wire)
	return results(n, e)
}

func distanceOf(l api.Loom, a, b int) []any {
	n, e := loom.Distance(l, a, b)
	return results(n, e)
}

func carriedOf(l api.Loom, run int, v []bool) []any {
	wires, e := loom.Carried(l, run, v)
	return results(wires, e)
}

func fillOf(l api.Loom, run int, v []bool) []any {
	n, e := loom.Fill(l, run, v)
	return results(n, e)
}

func worstOf(l api.Loom, run int) []any {
	n, v, e := loom.Worst(l, run)
	return results(n, v, e)
}

func tightOf(l api.Loom) []any {
	runs, e := loom.Tight(l)
	return results(runs, e)
}

func clashesOf(l api.Loom) []any {
	pairs, e := loom.Clashes(l)
	return results(pairs, e)
}

func bendsOf(l api.Loom) []any {
	bends, e := loom.Bends(l)
	return results(bends, e)
}

func spliceOf(l api.Loom, spots ...int) []any {
	spot, total, e := loom.Splice(l, spots)
	return results(spot, total, e)
}

func joinedOf(l api.Loom, spots ...int) []any {
	n, e := loom.Joined(l, spots)
	return results(n, e)
}

func sortsOf(l api.Loom) []any {
	always, never, e := loom.Sorts(l)
	return results(always, never, e)
}

func copperOf(l api.Loom, v []bool) []any {
	n, e := loom.Copper(l, v)
	return results(n, e)
}

func moveOf(l api.Loom, plug, spot int) []any {
	moved, e := loom.Move(l, plug, spot)
	return results(moved, e)
}
