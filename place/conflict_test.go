package place_test

import (
	"math/rand"
	"slices"
	"testing"

	"ignition/api"
	"ignition/place"
)

// only returns a problem with some of its bonds.
func only(p api.Problem, bonds ...int) api.Problem {
	var left []api.Bind
	for _, i := range bonds {
		left = append(left, p.Binds[i])
	}
	p.Binds = left
	return p
}

// P3.8: the examples of the chapter.
func TestExampleConflicts(t *testing.T) {
	together, fixed := api.Bind{Kind: api.Together, A: 0, B: 1}, api.Bind{Kind: api.Fixed, A: 0, B: 1}
	want(t, "Conflict without bonds", conflictOf(example()), results([]int{}, api.ErrNone))
	want(t, "Conflict of Together", conflictOf(bound(example(), together)), results([]int{0}, api.OK))
	want(t, "Conflict of Fixed and Together", conflictOf(bound(example(), fixed, together)), results([]int{1}, api.OK))
	want(t, "Conflict of Together and Fixed", conflictOf(bound(example(), together, fixed)), results([]int{0}, api.OK))
	want(t, "Conflict of Fixed", conflictOf(bound(example(), fixed)), results([]int{}, api.ErrNone))
}

// P3.8: where no plan is allowed even without bonds, all of them are taken away.
func TestNoConflict(t *testing.T) {
	p := bound(plain(2, 2), api.Bind{Kind: api.Apart, A: 0, B: 1}, api.Bind{Kind: api.Together, A: 0, B: 1})
	want(t, "Conflict of two", conflictOf(p), results([]int{0, 1}, api.OK))
	p.Tasks[0].Level = 1
	want(t, "Conflict of a level", conflictOf(p), results([]int{}, api.OK))
	want(t, "Conflict without hosts", conflictOf(plain(1, 0)), results([]int{}, api.OK))
	want(t, "Conflict without tasks", conflictOf(plain(0, 0)), results([]int{}, api.ErrNone))
	want(t, "Conflict without hosts, with bonds", conflictOf(bound(plain(2, 0), api.Bind{Kind: api.Apart, A: 0, B: 1})), results([]int{}, api.OK))
}

// P3.8: of several conflicts the one stays whose first bonds are the last ones.
func TestWhichConflict(t *testing.T) {
	at := func(task, host int) api.Bind { return api.Bind{Kind: api.Fixed, A: task, B: host} }
	p := bound(plain(3, 2), at(0, 0), at(0, 1), at(1, 0), at(1, 1), api.Bind{Kind: api.Apart, A: 1, B: 2}, at(2, 0))
	want(t, "Conflict", conflictOf(p), results([]int{2, 4, 5}, api.OK))
	p = only(p, 0, 1, 2, 3)
	want(t, "Conflict of the second task", conflictOf(p), results([]int{2, 3}, api.OK))
	p = bound(plain(1, 2), at(0, 0), at(0, 0), at(0, 1), at(0, 1))
	want(t, "Conflict of what stands twice", conflictOf(p), results([]int{1, 3}, api.OK))
}

// conflict is the plain definition of Conflict of a problem without plans.
func conflict(p api.Problem) []int {
	left := []int{}
	for i := range p.Binds {
		left = append(left, i)
	}
	for i := range p.Binds {
		fewer := slices.DeleteFunc(slices.Clone(left), func(k int) bool { return k == i })
		if len(allowed(only(p, fewer...))) == 0 {
			left = fewer
		}
	}
	return left
}

// P3.8, P3.13: random problems with many bonds.
func TestRandomConflicts(t *testing.T) {
	r := rand.New(rand.NewSource(4))
	sizes := map[int]int{}
	for range 1200 {
		p := randomProblem(r, 1+r.Intn(5), 1+r.Intn(4), r.Intn(14))
		for i := range p.Hosts {
			p.Hosts[i].Memory, p.Hosts[i].Time, p.Hosts[i].Level = 8+r.Intn(10), 8+r.Intn(10), 2
		}
		if len(allowed(p)) > 0 {
			want(t, "Conflict of what is allowed", conflictOf(p), results([]int{}, api.ErrNone))
			continue
		}
		l := conflict(p)
		sizes[len(l)]++
		want(t, "Conflict", results(p, conflictOf(p)), results(p, results(l, api.OK)))
		q := only(p, l...)
		want(t, "Count with the conflict", countOf(q), results(0, api.OK))
		for i := range l {
			less := only(p, slices.Delete(slices.Clone(l), i, i+1)...)
			if n, _ := place.Count(less); n == 0 {
				t.Errorf("the conflict %v of %+v needs no bond %d", l, p, l[i])
			}
		}
	}
	for n := range 5 {
		if sizes[n] < 5 {
			t.Errorf("there were %d conflicts of %d bonds", sizes[n], n)
		}
	}
}

// P3.13: with fewer bonds or more of a host an allowed plan stays allowed, and Best costs no more.
func TestMore(t *testing.T) {
	randomly(t, 600, func(r *rand.Rand, p api.Problem) {
		if len(p.Hosts) == 0 {
			return
		}
		q := copied(p)
		h := &q.Hosts[r.Intn(len(q.Hosts))]
		switch r.Intn(4) {
		case 0:
			if n := len(q.Binds); n > 0 {
				i := r.Intn(n)
				q.Binds = slices.Delete(q.Binds, i, i+1)
			}
		case 1:
			h.Memory += r.Intn(9)
		case 2:
			h.Time += r.Intn(9)
		case 3:
			h.Level = min(h.Level+r.Intn(3), api.MaxLevel)
		}
		each(p, nil, func(plan []int) {
			if allowedOf(p, plan)[0] == true && allowedOf(q, plan)[0] == false {
				t.Errorf("the plan %v is not allowed with %+v", plan, q)
			}
		})
		_, before, e := place.Best(p)
		_, after, f := place.Best(q)
		if e == api.OK && (f != api.OK || after > before) {
			t.Errorf("Best costs %d, then %d with %+v", before, after, q)
		}
	})
}
