package bus_test

import (
	"fmt"
	"math"
	"math/rand"
	"slices"
	"testing"

	"ignition/api"
	"ignition/bus"
)

// gates returns so many gates that are quick enough for all.
func gates(n int) []api.Gate { return slices.Repeat([]api.Gate{{Rate: api.MaxRate, Delay: 1}}, n) }

// flow returns a flow that needs little.
func flow(path ...int) api.Flow { return api.Flow{Burst: 1, Path: path} }

// P4.4: the examples.
func TestNetExample(t *testing.T) {
	n := net()
	want(t, "CheckNet", bus.CheckNet(n), api.OK)
	want(t, "Delays", delaysOf(n), results([]int{1, 3}, []int{8, 5}, api.OK))
	want(t, "Conforms", conformsOf(n.Flows[0], []int{20, 5, 5}), results(true, api.OK))
	want(t, "Conforms", conformsOf(n.Flows[0], []int{20, 6}), results(false, api.OK))
	want(t, "Send", sendOf(n, [][]int{{20, 5, 5}, {15, 0, 5}}), results([]int{6, 3}, api.OK))
}

// badNets are nets with their errors; nets that are right have OK.
func badNets() map[string]struct {
	n api.Net
	e api.Errno
} {
	type pair = struct {
		n api.Net
		e api.Errno
	}
	gate := func(rate, delay int) pair {
		return pair{api.Net{Gates: []api.Gate{{Rate: 1, Delay: 1}, {Rate: rate, Delay: delay}}}, api.ErrNet}
	}
	limits := func(burst, rate int) pair {
		return pair{api.Net{Gates: gates(1), Flows: []api.Flow{flow(0), {Burst: burst, Rate: rate, Path: []int{0}}}}, api.ErrNet}
	}
	path := func(path ...int) pair {
		return pair{api.Net{Gates: gates(9), Flows: []api.Flow{flow(0), flow(path...)}}, api.ErrNet}
	}
	right := func(p pair) pair { return pair{p.n, api.OK} }
	rates := func(gate int, rates ...int) pair {
		n := api.Net{Gates: gates(3)}
		n.Gates[1].Rate = gate
		for _, rate := range rates {
			n.Flows = append(n.Flows, api.Flow{Burst: 1, Rate: rate, Path: []int{2, 1}})
		}
		return pair{n, api.ErrRate}
	}
	return map[string]pair{
		"nothing":                            {api.Net{}, api.OK},
		"no flows":                           {api.Net{Gates: gates(1)}, api.OK},
		"no gates":                           {api.Net{Flows: []api.Flow{flow(0)}}, api.ErrNet},
		"the most gates":                     {api.Net{Gates: gates(30)}, api.OK},
		"one gate more":                      {api.Net{Gates: gates(31)}, api.ErrNet},
		"the most flows":                     {api.Net{Gates: gates(1), Flows: slices.Repeat([]api.Flow{flow(0)}, 40)}, api.OK},
		"one flow more":                      {api.Net{Gates: gates(1), Flows: slices.Repeat([]api.Flow{flow(0)}, 41)}, api.ErrNet},
		"the least gate":                     right(gate(1, 1)),
		"the greatest gate":                  right(gate(10000, 1000)),
		"a gate of Rate 0":                   gate(0, 1),
		"a gate of Rate 10001":               gate(10001, 1),
		"a gate of Delay 0":                  gate(1, 0),
		"a gate of Delay 1001":               gate(1, 1001),
		"a gate of the least numbers":        gate(math.MinInt, math.MinInt),
		"a gate of the greatest Rate":        gate(math.MaxInt, 1),
		"a gate of the greatest Delay":       gate(1, math.MaxInt),
		"the least flow":                     right(limits(1, 0)),
		"the greatest flow":                  right(limits(100000, 10000)),
		"a flow of Burst 0":                  limits(0, 0),
		"a flow of Burst 100001":             limits(100001, 0),
		"a flow of Rate -1":                  limits(1, -1),
		"a flow of Rate 10001":               limits(1, 10001),
		"a flow of the least Burst":          limits(math.MinInt, 0),
		"a flow of the greatest Rate":        limits(1, math.MaxInt),
		"a flow of the least Rate":           limits(1, math.MinInt),
		"the longest path":                   right(path(8, 7, 6, 5, 4, 3, 2, 1)),
		"a longer path":                      path(8, 7, 6, 5, 4, 3, 2, 1, 0),
		"no path":                            path(),
		"a gate beyond all":                  path(0, 9),
		"a gate below all":                   path(-1),
		"the least gate of all":              path(math.MinInt),
		"the greatest gate of all":           path(1, math.MaxInt),
		"a gate twice":                       path(1, 2, 1),
		"a gate twice in a row":              path(1, 1),
		"a gate that is not full":            {rates(10, 3, 0, 6).n, api.OK},
		"a full gate":                        {rates(10, 3, 0, 7).n, api.OK},
		"a gate that is overloaded":          rates(10, 3, 1, 7),
		"a gate that a single flow overload": rates(10, 11),
		"a ring of two":                      {api.Net{Gates: gates(2), Flows: []api.Flow{flow(0, 1), flow(1, 0)}}, api.ErrRing},
		"a ring of three flows":              {api.Net{Gates: gates(4), Flows: []api.Flow{flow(3, 0, 1), flow(1, 2), flow(2, 0)}}, api.ErrRing},
		"a ring that a path leads to":        {api.Net{Gates: gates(4), Flows: []api.Flow{flow(0, 1, 2), flow(2, 3), flow(3, 1)}}, api.ErrRing},
		"a path around":                      {api.Net{Gates: gates(4), Flows: []api.Flow{flow(0, 1, 2), flow(0, 3, 2), flow(1, 3), flow(0, 2)}}, api.OK},
		"the same path twice":                {api.Net{Gates: gates(3), Flows: []api.Flow{flow(2, 0, 1), flow(2, 0, 1)}}, api.OK},
		"a ring that is overloaded":          {api.Net{Gates: []api.Gate{{Rate: 1, Delay: 1}, {Rate: 1, Delay: 1}}, Flows: []api.Flow{{Burst: 1, Rate: 2, Path: []int{0, 1}}, flow(1, 0)}}, api.ErrRing},
		"a ring that is not valid":           {api.Net{Gates: gates(2), Flows: []api.Flow{flow(0, 1), flow(1, 0), flow()}}, api.ErrNet},
		"overloaded and not valid":           {api.Net{Gates: []api.Gate{{Rate: 1, Delay: 1}}, Flows: []api.Flow{{Burst: 1, Rate: 2, Path: []int{0}}, flow(1)}}, api.ErrNet},
	}
}

// P4.4: CheckNet accepts nets up to their limits; of several errors the first one comes, also from Delays and Send.
func TestCheckNet(t *testing.T) {
	for what, x := range badNets() {
		want(t, "CheckNet of "+what, bus.CheckNet(x.n), x.e)
		if x.e != api.OK {
			want(t, "Delays of "+what, delaysOf(x.n), results([]int{}, []int{}, x.e))
			want(t, "Send of "+what, sendOf(x.n, [][]int{{-1}}), results([]int{}, x.e))
		}
	}
}

// goesRound is the plain definition of a ring: a gate from which one comes to itself.
func goesRound(n api.Net) bool {
	leads := map[[2]int]bool{}
	for _, f := range n.Flows {
		for i := range f.Path[1:] {
			leads[[2]int{f.Path[i], f.Path[i+1]}] = true
		}
	}
	for k := range n.Gates {
		for i := range n.Gates {
			for j := range n.Gates {
				if leads[[2]int{i, k}] && leads[[2]int{k, j}] {
					leads[[2]int{i, j}] = true
				}
			}
		}
	}
	return anyGate(n, func(g int) bool { return leads[[2]int{g, g}] })
}

// anyGate reports whether something holds for some gate.
func anyGate(n api.Net, holds func(gate int) bool) bool {
	for g := range n.Gates {
		if holds(g) {
			return true
		}
	}
	return false
}

// overloads is the plain definition of a gate through which too much goes.
func overloads(n api.Net, gate int) bool {
	left := n.Gates[gate].Rate
	for _, f := range n.Flows {
		if slices.Contains(f.Path, gate) {
			left -= f.Rate
		}
	}
	return left < 0
}

// randomNet returns a valid net; the paths of many go round, and some gates are overloaded.
func randomNet(r *rand.Rand, most int, round bool) api.Net {
	var n api.Net
	for range 1 + r.Intn(most) {
		n.Gates = append(n.Gates, api.Gate{Rate: 1 + r.Intn(12), Delay: 1 + r.Intn(3)})
	}
	order := r.Perm(len(n.Gates))
	for range r.Intn(6) {
		path := r.Perm(len(n.Gates))[:1+r.Intn(len(n.Gates))]
		if !round {
			slices.SortFunc(path, func(a, b int) int { return order[a] - order[b] })
		}
		n.Flows = append(n.Flows, api.Flow{Burst: 1 + r.Intn(20), Rate: r.Intn(4), Path: path})
	}
	return n
}

// P4.4: CheckNet finds the rings and the gates that are overloaded.
func TestCheckNetRandom(t *testing.T) {
	r := rand.New(rand.NewSource(8))
	all := map[api.Errno]int{}
	for range 5000 {
		n := randomNet(r, 6, r.Intn(2) == 0)
		should := api.OK
		if goesRound(n) {
			should = api.ErrRing
		} else if anyGate(n, func(g int) bool { return overloads(n, g) }) {
			should = api.ErrRate
		}
		all[should]++
		want(t, fmt.Sprintf("CheckNet of %v", n), bus.CheckNet(n), should)
	}
	if all[api.OK] < 500 || all[api.ErrRing] < 500 || all[api.ErrRate] < 500 {
		t.Errorf("the errors are %v", all)
	}
}

// known are the waits of a net that are known already.
type known map[int]int

// burst is the plain definition of the burst of a flow at a step of its path.
func (k known) burst(n api.Net, f api.Flow, step int) int {
	if step == 0 {
		return f.Burst
	}
	return k.burst(n, f, step-1) + f.Rate*k.wait(n, f.Path[step-1])
}

// wait is the plain definition of the wait of a gate.
func (k known) wait(n api.Net, gate int) int {
	if wait, is := k[gate]; is {
		return wait
	}
	sum, any := 0, false
	for _, f := range n.Flows {
		if step := slices.Index(f.Path, gate); step >= 0 {
			sum, any = sum+k.burst(n, f, step), true
		}
	}
	k[gate] = 0
	if any {
		k[gate] = up(sum, n.Gates[gate].Rate) - 1
	}
	return k[gate]
}

// delays is the plain definition of the delays of the flows.
func delays(n api.Net) []int {
	var all []int
	k := known{}
	for _, f := range n.Flows {
		sum := 0
		for _, g := range f.Path {
			sum += n.Gates[g].Delay + k.wait(n, g)
		}
		all = append(all, sum)
	}
	return all
}

// waits is the plain definition of the waits of the gates.
func waits(n api.Net) []int {
	var all []int
	k := known{}
	for g := range n.Gates {
		all = append(all, k.wait(n, g))
	}
	return all
}

// P4.4: Delays is as defined. P4.11: with a greater Burst or Rate no wait and no delay becomes shorter.
func TestDelaysRandom(t *testing.T) {
	r := rand.New(rand.NewSource(9))
	ok := 0
	for range 6000 {
		n := randomNet(r, 5, false)
		if bus.CheckNet(n) != api.OK {
			continue
		}
		before, alsoBefore, e := bus.Delays(n)
		want(t, fmt.Sprintf("Delays of %v", n), results(before, alsoBefore, e), results(waits(n), delays(n), api.OK))
		if len(n.Flows) == 0 {
			continue
		}
		more := copied(n)
		f := &more.Flows[r.Intn(len(n.Flows))]
		if r.Intn(2) == 0 {
			f.Burst += among(r, 1, 10)
		} else {
			f.Rate += among(r, 1, 2)
		}
		after, alsoAfter, e := bus.Delays(more)
		if e != api.OK {
			continue
		}
		ok++
		for i, x := range slices.Concat(after, alsoAfter) {
			if x < slices.Concat(before, alsoBefore)[i] {
				t.Errorf("the net %v waits longer than %v", n, more)
			}
		}
	}
	if ok < 500 {
		t.Errorf("only %d nets could carry more", ok)
	}
}

// P4.4: nets without flows, gates that no flow goes through, and bursts that are sent at once.
func TestDelaysOfLittle(t *testing.T) {
	want(t, "Delays of nothing", delaysOf(api.Net{}), results([]int{}, []int{}, api.OK))
	want(t, "Delays without flows", delaysOf(api.Net{Gates: gates(3)}), results([]int{0, 0, 0}, []int{}, api.OK))
	for _, x := range []struct{ burst, wait int }{{1, 0}, {9, 0}, {10, 0}, {11, 1}, {20, 1}, {21, 2}} {
		n := api.Net{Gates: []api.Gate{{Rate: 7, Delay: 4}, {Rate: 10, Delay: 5}}, Flows: []api.Flow{{Burst: x.burst, Rate: 10, Path: []int{1}}}}
		want(t, fmt.Sprintf("Delays of the burst %d", x.burst), delaysOf(n), results([]int{0, x.wait}, []int{5 + x.wait}, api.OK))
	}
}

// steep returns a net in which the bursts of flow 1 grow steeply: by more with more other flows, with a greater burst of
// flow 0, and, just before the last gate, by as much as flow 2 has.
func steep(others, burst, last int) api.Net {
	n := api.Net{Gates: slices.Repeat([]api.Gate{{Rate: 1, Delay: 1}}, 12)}
	n.Gates[7].Rate = 2
	n.Flows = []api.Flow{
		{Burst: burst, Rate: 1, Path: []int{0, 1, 2, 3, 4, 5, 6, 7}},
		{Burst: api.MaxBurst, Rate: 1, Path: []int{7, 8, 9, 10, 11}},
		{Burst: last, Path: []int{10}},
	}
	for range others {
		n.Flows = append(n.Flows, api.Flow{Burst: api.MaxBurst, Path: []int{0, 1, 2, 3, 4, 5, 6, 7}})
	}
	return n
}

// P4.4: a burst of MaxBytes is none too much, and one byte more is; what comes behind the last gate counts for nothing.
func TestGreatestBurst(t *testing.T) {
	greatest := func(n api.Net) int { return known{}.burst(n, n.Flows[1], 4) }
	others, burst := 1, 1
	for greatest(steep(others+1, 1, 1)) <= api.MaxBytes {
		others++
	}
	for greatest(steep(others, burst+100, 1)) <= api.MaxBytes {
		burst += 100
	}
	n := steep(others, burst, 1+api.MaxBytes-greatest(steep(others, burst, 1)))
	want(t, "the greatest burst", results(greatest(n), bus.CheckNet(n)), results(api.MaxBytes, api.OK))
	want(t, "Delays", delaysOf(n), results(waits(n), delays(n), api.OK))
	n.Flows[2].Burst++
	want(t, "the greatest burst", results(greatest(n), bus.CheckNet(n)), results(api.MaxBytes+1, api.OK))
	want(t, "Delays of one byte more", delaysOf(n), results([]int{}, []int{}, api.ErrOver))
	n.Flows[1].Path = n.Flows[1].Path[:4]
	want(t, "Delays without the last gate", delaysOf(n), results(waits(n), delays(n), api.OK))
}

// P4.4: the errors and the limits of Conforms.
func TestConforms(t *testing.T) {
	f := api.Flow{Burst: 20, Rate: 5}
	long := make([]int, 65)
	for _, x := range []struct {
		what    string
		f       api.Flow
		traffic []int
		is      bool
		e       api.Errno
	}{
		{"no traffic", f, nil, true, api.OK},
		{"as much as may be", f, []int{20, 5, 5, 5}, true, api.OK},
		{"one byte more at first", f, []int{21}, false, api.OK},
		{"one byte more at last", f, []int{20, 5, 5, 6}, false, api.OK},
		{"later", f, []int{0, 0, 20, 5}, true, api.OK},
		{"later, and not more for that", f, []int{0, 0, 21}, false, api.OK},
		{"twice", f, []int{20, 0, 0, 0, 20}, true, api.OK},
		{"twice, a tick sooner", f, []int{20, 0, 0, 20}, false, api.OK},
		{"too much in the middle", f, []int{1, 19, 7, 0}, false, api.OK},
		{"of no Rate", api.Flow{Burst: 2}, []int{1, 0, 0, 0, 0, 1}, true, api.OK},
		{"too much of no Rate", api.Flow{Burst: 2}, []int{1, 0, 1, 0, 0, 1}, false, api.OK},
		{"the most ticks", f, long[:64], true, api.OK},
		{"a tick more", f, long, false, api.ErrArg},
		{"the most bytes", api.Flow{Burst: 1000}, []int{1000}, true, api.OK},
		{"a byte more than that", api.Flow{Burst: 2000}, []int{0, 1001}, false, api.ErrArg},
		{"less than no bytes", f, []int{21, -1}, false, api.ErrArg},
		{"the least number of bytes", f, []int{math.MinInt}, false, api.ErrArg},
		{"the greatest number of bytes", f, []int{math.MaxInt}, false, api.ErrArg},
		{"any path", api.Flow{Burst: 20, Path: []int{-1, 5, 5}}, []int{20}, true, api.OK},
		{"the greatest flow", api.Flow{Burst: 100000, Rate: 10000}, []int{1000}, true, api.OK},
		{"a Burst of 0", api.Flow{Rate: 5}, nil, false, api.ErrNet},
		{"a Burst of 100001", api.Flow{Burst: 100001}, nil, false, api.ErrNet},
		{"a Rate of -1", api.Flow{Burst: 1, Rate: -1}, nil, false, api.ErrNet},
		{"a Rate of 10001", api.Flow{Burst: 1, Rate: 10001}, nil, false, api.ErrNet},
		{"the least Burst", api.Flow{Burst: math.MinInt}, nil, false, api.ErrNet},
		{"the greatest Rate", api.Flow{Burst: 1, Rate: math.MaxInt}, nil, false, api.ErrNet},
		{"neither flow nor traffic valid", api.Flow{}, long, false, api.ErrNet},
	} {
		want(t, "Conforms: "+x.what, conformsOf(x.f, x.traffic), results(x.is, x.e))
	}
}

// P4.4: Conforms is as defined.
func TestConformsRandom(t *testing.T) {
	r := rand.New(rand.NewSource(10))
	yes := 0
	for range 3000 {
		f := api.Flow{Burst: 1 + r.Intn(10), Rate: r.Intn(4)}
		var traffic []int
		for range r.Intn(8) {
			traffic = append(traffic, max(r.Intn(9)-4, 0))
		}
		is := true
		for s := range traffic {
			for t := s; t < len(traffic); t++ {
				sum := 0
				for _, bytes := range traffic[s : t+1] {
					sum += bytes
				}
				is = is && sum <= f.Burst+f.Rate*(t-s)
			}
		}
		if is {
			yes++
		}
		want(t, fmt.Sprintf("Conforms of %v and %v", f, traffic), conformsOf(f, traffic), results(is, api.OK))
	}
	if yes < 500 || yes > 2500 {
		t.Errorf("%d conform", yes)
	}
}
