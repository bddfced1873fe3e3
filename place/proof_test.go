package place_test

import (
	"math"
	"math/rand"
	"slices"
	"testing"

	"ignition/api"
	"ignition/place"
)

// leaf makes a leaf.
func leaf(why int, plan ...int) api.Leaf { return api.Leaf{Plan: plan, Why: why} }

// search is the plain definition of Prove; best is the cost of Best, or MaxInt.
func search(p api.Problem, best int, begin []int) []api.Leaf {
	if hopeless(p, begin) {
		return []api.Leaf{leaf(1, slices.Clone(begin)...)}
	}
	if costs(p, begin) >= best {
		return []api.Leaf{leaf(2, slices.Clone(begin)...)}
	}
	var l []api.Leaf
	for h := range p.Hosts {
		l = append(l, search(p, best, append(begin, h))...)
	}
	return l
}

// isReason is the plain definition of what Proves demands of one leaf.
func isReason(p api.Problem, l api.Leaf, cost int) bool {
	if len(l.Plan) > len(p.Tasks) || slices.ContainsFunc(l.Plan, func(h int) bool { return h < 0 || h >= len(p.Hosts) }) {
		return false
	}
	return l.Why == 1 && hopeless(p, l.Plan) || l.Why == 2 && costs(p, l.Plan) >= cost
}

// proves is the plain definition of Proves.
func proves(p api.Problem, leaves []api.Leaf, cost int) bool {
	for _, l := range leaves {
		if !isReason(p, l, cost) {
			return false
		}
	}
	is := true
	each(p, nil, func(plan []int) {
		n := 0
		for _, l := range leaves {
			if slices.Equal(plan[:len(l.Plan)], l.Plan) {
				n++
			}
		}
		is = is && n == 1
	})
	return is
}

// P3.6, P3.7: the example of the chapter.
func TestExampleProof(t *testing.T) {
	p := example()
	leaves := []api.Leaf{leaf(1, 0, 0), leaf(1, 0, 1), leaf(2, 1, 0), leaf(1, 1, 1)}
	want(t, "Prove", proveOf(p), results(leaves, api.OK))
	for cost, is := range map[int]bool{20: true, 21: false, 19: true, 0: true, -1: true, math.MinInt: true, math.MaxInt: false} {
		want(t, "Proves", results(cost, provesOf(p, leaves, cost)), results(cost, results(is, api.OK)))
	}
}

// P3.6: without tasks the first beginning is a plan; without hosts there is nowhere to go on to.
func TestProofOfNothing(t *testing.T) {
	want(t, "Prove without tasks", proveOf(plain(0, 2)), results([]api.Leaf{leaf(2)}, api.OK))
	want(t, "Prove without all", proveOf(api.Problem{}), results([]api.Leaf{leaf(2)}, api.OK))
	want(t, "Prove without hosts", proveOf(plain(2, 0)), results([]api.Leaf{}, api.OK))
	want(t, "Prove of what costs nothing", proveOf(plain(3, 3)), results([]api.Leaf{leaf(2)}, api.OK))
	p := plain(2, 2)
	p.Tasks[1].Level = 1
	want(t, "Prove of what is not allowed", proveOf(p), results([]api.Leaf{leaf(1, 0, 0), leaf(1, 0, 1), leaf(1, 1, 0), leaf(1, 1, 1)}, api.OK))
	p.Tasks[0].Time = 1
	want(t, "Prove of what is soon not allowed", proveOf(p), results([]api.Leaf{leaf(1, 0), leaf(1, 1)}, api.OK))
}

// P3.7: what is no proof.
func TestNoProofs(t *testing.T) {
	p := example()
	for _, c := range []struct {
		what   string
		leaves []api.Leaf
		is     bool
	}{
		{"no leaves", nil, false},
		{"the beginning", []api.Leaf{leaf(2)}, false},
		{"a beginning that is not hopeless", []api.Leaf{leaf(1)}, false},
		{"another order", []api.Leaf{leaf(1, 1, 1), leaf(2, 1, 0), leaf(1, 0, 1), leaf(1, 0, 0)}, true},
		{"a missing leaf", []api.Leaf{leaf(1, 0, 0), leaf(1, 0, 1), leaf(2, 1, 0)}, false},
		{"a missing first leaf", []api.Leaf{leaf(1, 0, 1), leaf(2, 1, 0), leaf(1, 1, 1)}, false},
		{"a leaf twice", []api.Leaf{leaf(1, 0, 0), leaf(1, 0, 1), leaf(2, 1, 0), leaf(1, 1, 1), leaf(1, 1, 1)}, false},
		{"a hopeless plan that costs enough", []api.Leaf{leaf(1, 0, 0), leaf(2, 0, 1), leaf(2, 1, 0), leaf(1, 1, 1)}, true},
		{"a hopeless plan that costs too little", []api.Leaf{leaf(1, 0, 0), leaf(1, 0, 1), leaf(2, 1, 0), leaf(2, 1, 1)}, false},
		{"an allowed plan that is called hopeless", []api.Leaf{leaf(1, 0, 0), leaf(1, 0, 1), leaf(1, 1, 0), leaf(1, 1, 1)}, false},
		{"no why", []api.Leaf{leaf(1, 0, 0), leaf(0, 0, 1), leaf(2, 1, 0), leaf(1, 1, 1)}, false},
		{"another why", []api.Leaf{leaf(1, 0, 0), leaf(3, 0, 1), leaf(2, 1, 0), leaf(1, 1, 1)}, false},
		{"a host that there is not", []api.Leaf{leaf(1, 0, 0), leaf(1, 0, 2), leaf(2, 1, 0), leaf(1, 1, 1)}, false},
		{"a host below 0", []api.Leaf{leaf(1, 0, 0), leaf(1, 0, -1), leaf(2, 1, 0), leaf(1, 1, 1)}, false},
		{"a longer leaf", []api.Leaf{leaf(1, 0, 0), leaf(1, 0, 1), leaf(2, 1, 0), leaf(1, 1, 1, 0)}, false},
	} {
		want(t, "Proves with "+c.what, provesOf(p, c.leaves, 20), results(c.is, api.OK))
	}
}

// P3.7: leaves that begin others.
func TestLeavesBelowOthers(t *testing.T) {
	p := plain(2, 2)
	p.Tasks[0].Level = 1
	p.Hosts[1].Level = 1
	p.Hosts[0].Price = 9
	p.Hosts[1].Price = 9
	for _, c := range []struct {
		leaves []api.Leaf
		is     bool
	}{
		{[]api.Leaf{leaf(1, 0), leaf(2, 1)}, true},
		{[]api.Leaf{leaf(1, 0), leaf(2, 1, 0), leaf(2, 1, 1)}, true},
		{[]api.Leaf{leaf(1, 0, 0), leaf(1, 0, 1), leaf(2, 1)}, true},
		{[]api.Leaf{leaf(2, 0, 0), leaf(1, 0, 1), leaf(2, 1)}, true},
		{[]api.Leaf{leaf(1, 0), leaf(1, 0, 0), leaf(2, 1)}, false},
		{[]api.Leaf{leaf(1, 0), leaf(1, 0, 1), leaf(2, 1)}, false},
		{[]api.Leaf{leaf(1, 0), leaf(2, 1), leaf(2, 1, 1)}, false},
		{[]api.Leaf{leaf(1, 0, 1), leaf(1, 0), leaf(2, 1)}, false},
		{[]api.Leaf{leaf(1, 0), leaf(1, 0), leaf(2, 1)}, false},
		{[]api.Leaf{leaf(1, 0), leaf(2, 0), leaf(2, 1)}, false},
		{[]api.Leaf{leaf(2, 1), leaf(2, 1)}, false},
		{[]api.Leaf{leaf(1, 0)}, false},
		{[]api.Leaf{leaf(2, 1)}, false},
	} {
		want(t, "Proves", results(c.leaves, provesOf(p, c.leaves, 9)), results(c.leaves, results(c.is, api.OK)))
		want(t, "the plain definition", proves(p, c.leaves, 9), c.is)
	}
}

// P3.7: without tasks there is the one plan, without hosts for them there is none.
func TestProvesNothing(t *testing.T) {
	for hosts := range 3 {
		none := plain(0, hosts)
		want(t, "Proves without leaves or tasks", provesOf(none, nil, 0), results(false, api.OK))
		want(t, "Proves without tasks", provesOf(none, []api.Leaf{leaf(2)}, 0), results(true, api.OK))
		want(t, "Proves a cost without tasks", provesOf(none, []api.Leaf{leaf(2)}, 1), results(false, api.OK))
		want(t, "Proves without tasks, twice", provesOf(none, []api.Leaf{leaf(2), leaf(2)}, 0), results(false, api.OK))
		want(t, "Proves with a task too many", provesOf(none, []api.Leaf{leaf(2, 0)}, 0), results(false, api.OK))
	}
	p := plain(2, 0)
	want(t, "Proves without leaves or hosts", provesOf(p, nil, 1000), results(true, api.OK))
	want(t, "Proves without hosts", provesOf(p, []api.Leaf{leaf(2)}, 0), results(true, api.OK))
	want(t, "Proves without hosts, twice", provesOf(p, []api.Leaf{leaf(2), leaf(2)}, 0), results(true, api.OK))
	want(t, "Proves a cost without hosts", provesOf(p, []api.Leaf{leaf(2)}, 1), results(false, api.OK))
	want(t, "Proves with a host too many", provesOf(p, []api.Leaf{leaf(2, 0)}, 0), results(false, api.OK))
}

// P3.7: more than MaxLeaves leaves are too many, whatever they are.
func TestManyLeaves(t *testing.T) {
	p := example()
	want(t, "Proves of 5000 leaves", provesOf(p, make([]api.Leaf, api.MaxLeaves), 0), results(false, api.OK))
	want(t, "Proves of 5001 leaves", provesOf(p, make([]api.Leaf, api.MaxLeaves+1), 0), results(false, api.ErrMany))
	p.Talks[0].B = 0
	want(t, "Proves of 5001 leaves of what is wrong", provesOf(p, make([]api.Leaf, api.MaxLeaves+1), 0), results(false, api.ErrRule))
}

// P3.6: a search without plans that has just fewer than MaxLeaves leaves, or just more. (With 3 hosts their number is odd.)
func TestMaxLeaves(t *testing.T) {
	for leaves, memories := range map[int][2][]int{
		4999: {{2, 7, 1, 6, 9, 2, 4, 7, 6, 4}, {9, 18, 20}},
		5001: {{5, 9, 2, 5, 7, 1, 4, 3, 9, 3}, {16, 21, 10}},
	} {
		p := plain(10, 3)
		for i, m := range memories[0] {
			p.Tasks[i].Memory = m
		}
		for i, m := range memories[1] {
			p.Hosts[i].Memory = m
		}
		should := search(p, math.MaxInt, nil)
		want(t, "how many leaves there are", len(should), leaves)
		got, e := place.Prove(p)
		if leaves > api.MaxLeaves {
			want(t, "Prove", results(got, e), results([]api.Leaf{}, api.ErrMany))
			continue
		}
		want(t, "Prove", results(got, e), results(should, api.OK))
		want(t, "Proves", provesOf(p, got, 1000), results(true, api.OK))
		want(t, "Proves with one leaf less", provesOf(p, got[:leaves-1], 1000), results(false, api.OK))
	}
}

// spoiled changes a proof at random; it may stay a proof.
func spoiled(r *rand.Rand, p api.Problem, leaves []api.Leaf) []api.Leaf {
	l := slices.Clone(leaves)
	if len(l) == 0 {
		return l
	}
	i := r.Intn(len(l))
	switch r.Intn(6) {
	case 0:
		return slices.Delete(l, i, i+1)
	case 1:
		return append(l, l[i])
	case 2:
		l[i].Why = r.Intn(4)
	case 3:
		l[i].Plan = randomPlan(r, p, r.Intn(len(p.Tasks)+1))
	case 4:
		r.Shuffle(len(l), func(i, k int) { l[i], l[k] = l[k], l[i] })
	case 5:
		old := l[i]
		l = slices.Delete(l, i, i+1)
		for h := range p.Hosts {
			l = append(l, leaf(old.Why, append(slices.Clone(old.Plan), h)...))
		}
	}
	return l
}

// P3.6, P3.7, P3.12: random problems, and proofs that are spoiled.
func TestRandomProofs(t *testing.T) {
	good, bad := 0, 0
	randomly(t, 1200, func(r *rand.Rand, p api.Problem) {
		best, cost := math.MaxInt, 100
		if _, c, e := place.Best(p); e == api.OK {
			best, cost = c, c
		}
		leaves := search(p, best, nil)
		want(t, "Prove", proveOf(p), results(leaves, api.OK))
		want(t, "Proves", provesOf(p, leaves, cost), results(true, api.OK))
		for range 4 {
			if len(p.Hosts) == 0 {
				break
			}
			l := spoiled(r, p, leaves)
			c := cost + r.Intn(3) - 1
			is := proves(p, l, c)
			want(t, "Proves", results(l, c, provesOf(p, l, c)), results(l, c, results(is, api.OK)))
			if is && c > best {
				t.Errorf("the leaves %v prove %d, but the best plan costs %d", l, c, best)
			}
			good, bad = good+map[bool]int{true: 1}[is], bad+map[bool]int{false: 1}[is]
		}
	})
	if good < 500 || bad < 500 {
		t.Errorf("%d proofs were good, and %d bad", good, bad)
	}
}
