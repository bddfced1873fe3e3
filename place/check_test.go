package place_test

import (
	"math"
	"slices"
	"strings"
	"testing"

	"ignition/api"
	"ignition/place"
)

// wrong is a problem and what Check says of it.
type wrong struct {
	what  string
	p     api.Problem
	error api.Errno
}

// checkAll checks that Check says so, and all other functions too, whatever else is wrong.
func checkAll(t *testing.T, l []wrong) {
	t.Helper()
	for _, w := range l {
		want(t, "Check of "+w.what, place.Check(w.p), w.error)
		if w.error == api.OK {
			continue
		}
		for i, got := range [][]any{
			allowedOf(w.p, []int{-1}), costOf(w.p, []int{-1}), hopelessOf(w.p, []int{-1}), boundOf(w.p, []int{-1}),
			listOf(w.p, 0), countOf(w.p), provesOf(w.p, make([]api.Leaf, api.MaxLeaves+1), 0), saveOf(w.p, []int{-1}), proveOf(w.p), conflictOf(w.p),
		} {
			zero := []any{false, 0, false, 0, []int{}, 0, false, 0, []int{}, []int{}}[i]
			want(t, w.what, got, results(zero, w.error))
		}
		want(t, "Best of "+w.what, bestOf(w.p), results([]int{}, 0, w.error))
		want(t, "Repair of "+w.what, repairOf(w.p, []int{-1}, -1), results([]int{}, 0, w.error))
	}
}

// with returns the example after a change.
func with(change func(p *api.Problem)) api.Problem {
	p := example()
	change(&p)
	return p
}

// P3.1: there are at most so many tasks, hosts, bonds and talks; more comes before all else that is wrong.
func TestMany(t *testing.T) {
	full := plain(api.MaxTasks, api.MaxHosts)
	full.Binds = slices.Repeat([]api.Bind{{Kind: api.Apart, A: 0, B: 1}}, api.MaxBinds)
	full.Talks = slices.Repeat([]api.Talk{{A: 0, B: 1}}, api.MaxTalks)
	var l []wrong
	l = append(l, wrong{"the greatest problem", full, api.OK}, wrong{"nothing", api.Problem{}, api.OK})
	for i, what := range []string{"11 tasks", "7 hosts", "31 bonds", "31 talks"} {
		p := copied(full)
		p.Tasks[0].Name = ""
		switch i {
		case 0:
			p.Tasks = append(p.Tasks, api.Task{Name: "z"})
		case 1:
			p.Hosts = append(p.Hosts, api.Host{Name: "z"})
		case 2:
			p.Binds = append(p.Binds, api.Bind{Kind: api.Apart, A: 0, B: 1})
		case 3:
			p.Talks = append(p.Talks, api.Talk{A: 0, B: 1})
		}
		l = append(l, wrong{what, p, api.ErrMany})
	}
	checkAll(t, l)
}

// P3.1: names have from 1 to 8 letters, and are those of one task or one host alone.
func TestNames(t *testing.T) {
	names := map[string]bool{
		"": false, "a": true, "z": true, "abcdefgh": true, "abcdefghi": false, strings.Repeat("a", 100000): false,
		"A": false, "a ": false, "a1": false, "`": false, "{": false, "ä": false, "\xff": false, "a\x00": false, "ab\n": false, "a_b": false,
	}
	var l []wrong
	for name, is := range names {
		for i, e := range []api.Errno{api.ErrTask, api.ErrHost} {
			p := plain(1, 1)
			[]func(){func() { p.Tasks[0].Name = name }, func() { p.Hosts[0].Name = name }}[i]()
			l = append(l, wrong{name[:min(len(name), 20)], p, map[bool]api.Errno{false: e}[is]})
		}
	}
	l = append(l,
		wrong{"two tasks of one name", with(func(p *api.Problem) { p.Tasks[1].Name = "a" }), api.ErrTask},
		wrong{"two hosts of one name", with(func(p *api.Problem) { p.Hosts[1].Name = "x" }), api.ErrHost},
		wrong{"a task and a host of one name", with(func(p *api.Problem) { p.Tasks[1].Name = "x" }), api.OK},
		wrong{"the third task has the first name", with(func(p *api.Problem) { p.Tasks = append(p.Tasks, api.Task{Name: "a"}) }), api.ErrTask},
		wrong{"the third host has the first name", with(func(p *api.Problem) { p.Hosts = append(p.Hosts, api.Host{Name: "x"}) }), api.ErrHost},
	)
	checkAll(t, l)
}

// P3.1: the numbers of tasks, hosts and talks.
func TestNumbers(t *testing.T) {
	for _, c := range []struct {
		what  string
		most  int
		error api.Errno
		set   func(p *api.Problem, n int)
	}{
		{"Memory of a task", api.MaxCost, api.ErrTask, func(p *api.Problem, n int) { p.Tasks[1].Memory = n }},
		{"Time of a task", api.MaxCost, api.ErrTask, func(p *api.Problem, n int) { p.Tasks[1].Time = n }},
		{"Level of a task", api.MaxLevel, api.ErrTask, func(p *api.Problem, n int) { p.Tasks[1].Level = n }},
		{"Memory of a host", api.MaxCost, api.ErrHost, func(p *api.Problem, n int) { p.Hosts[1].Memory = n }},
		{"Time of a host", api.MaxCost, api.ErrHost, func(p *api.Problem, n int) { p.Hosts[1].Time = n }},
		{"Zone of a host", api.MaxCost, api.ErrHost, func(p *api.Problem, n int) { p.Hosts[1].Zone = n }},
		{"Price of a host", api.MaxCost, api.ErrHost, func(p *api.Problem, n int) { p.Hosts[1].Price = n }},
		{"Level of a host", api.MaxLevel, api.ErrHost, func(p *api.Problem, n int) { p.Hosts[1].Level = n }},
		{"Weight of a talk", api.MaxCost, api.ErrRule, func(p *api.Problem, n int) { p.Talks[0].Weight = n }},
		{"A of a talk", 2, api.ErrRule, func(p *api.Problem, n int) {
			p.Tasks = append(p.Tasks, api.Task{Name: "c"}, api.Task{Name: "d"})
			p.Talks[0] = api.Talk{A: n, B: 3}
		}},
		{"B of a talk", 2, api.ErrRule, func(p *api.Problem, n int) {
			p.Tasks = append(p.Tasks, api.Task{Name: "c"}, api.Task{Name: "d"})
			p.Talks[0] = api.Talk{A: 3, B: n}
		}},
	} {
		over := c.most + 1
		if strings.Contains(c.what, "of a talk") && c.most == 2 {
			over = 4
		}
		for _, n := range []int{0, 1, c.most, -1, over, math.MinInt, math.MaxInt} {
			is := map[bool]api.Errno{false: c.error}[n >= 0 && n <= c.most]
			want(t, c.what, results(n, place.Check(with(func(p *api.Problem) { c.set(p, n) }))), results(n, is))
		}
	}
	want(t, "a talk of a task with itself", place.Check(talking(example(), api.Talk{A: 1, B: 1})), api.ErrRule)
}

// P3.1: bonds are of a kind, and bind two different tasks, or a task and a host.
func TestBonds(t *testing.T) {
	p := plain(3, 2)
	for kind := -1; kind <= 7; kind++ {
		for _, a := range []int{-1, 0, 1, 2, 3, math.MinInt, math.MaxInt} {
			for _, b := range []int{-1, 0, 1, 2, 3, math.MinInt, math.MaxInt} {
				task := func(n int) bool { return n >= 0 && n < 3 }
				is := task(a) && map[int]bool{
					api.Apart: task(b) && a != b, api.Together: task(b) && a != b, api.Zoned: task(b) && a != b,
					api.Barred: b >= 0 && b < 2, api.Fixed: b >= 0 && b < 2,
				}[kind]
				bond := api.Bind{Kind: kind, A: a, B: b}
				want(t, "Check with a bond", results(bond, place.Check(bound(p, bond))), results(bond, map[bool]api.Errno{false: api.ErrRule}[is]))
			}
		}
	}
	for _, kind := range []int{math.MinInt, math.MaxInt, 6, 0} {
		want(t, "Check with a bond of a kind", place.Check(bound(p, api.Bind{Kind: kind, A: 0, B: 1})), api.ErrRule)
	}
	want(t, "Check with a bad bond behind a good one", place.Check(bound(p, api.Bind{Kind: api.Apart, A: 0, B: 1}, api.Bind{})), api.ErrRule)
	want(t, "Check with a bad talk behind a good one", place.Check(talking(p, api.Talk{A: 0, B: 1}, api.Talk{})), api.ErrRule)
	want(t, "Check with a bond but no hosts", place.Check(bound(plain(2, 0), api.Bind{Kind: api.Barred})), api.ErrRule)
	want(t, "Check with a bond of tasks but no hosts", place.Check(bound(plain(2, 0), api.Bind{Kind: api.Apart, B: 1})), api.OK)
}

// P3.1, R1: tasks come before hosts, hosts before bonds and talks.
func TestOrderOfErrors(t *testing.T) {
	badTask := func(p *api.Problem) { p.Tasks[1].Level = 5 }
	badHost := func(p *api.Problem) { p.Hosts[0].Zone = -1 }
	badBond := func(p *api.Problem) { p.Binds = []api.Bind{{Kind: 9}} }
	badTalk := func(p *api.Problem) { p.Talks[0].Weight = -1 }
	both := func(l ...func(p *api.Problem)) api.Problem {
		return with(func(p *api.Problem) {
			for _, f := range l {
				f(p)
			}
		})
	}
	checkAll(t, []wrong{
		{"all bad", both(badTask, badHost, badBond, badTalk), api.ErrTask},
		{"a bad task and a bad talk", both(badTask, badTalk), api.ErrTask},
		{"bad hosts, bonds and talks", both(badHost, badBond, badTalk), api.ErrHost},
		{"a bad bond", both(badBond), api.ErrRule},
		{"a bad talk", both(badTalk), api.ErrRule},
		{"a bad host", both(badHost), api.ErrHost},
		{"a bad task", both(badTask), api.ErrTask},
		{"the example", example(), api.OK},
	})
}
