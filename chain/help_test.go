package chain_test

import (
	"fmt"
	"math/rand"
	"slices"
	"testing"

	"ignition/api"
	"ignition/bus"
	"ignition/chain"
)

// The tests compare the package with plain definitions, which follow the document step by step.

// timed makes a timed step.
func timed(every, response, offset int) api.Step {
	return api.Step{Every: every, Response: response, Offset: offset, Timed: true}
}

// loose makes a loose step.
func loose(every, response int) api.Step { return api.Step{Every: every, Response: response} }

// steps is the chain of the chapter's examples.
func steps() []api.Step { return []api.Step{timed(10, 3, 0), timed(4, 2, 1), timed(5, 5, 0)} }

// pair is the loose chain of the chapter's examples.
func pair() []api.Step { return []api.Step{loose(10, 4), loose(10, 6)} }

// mixed is a chain with loose and timed steps.
func mixed() []api.Step { return []api.Step{timed(10, 3, 7), loose(4, 20), timed(5, 5, 0)} }

// long is a timed chain with a round of one tick more than MaxRound.
func long() []api.Step { return []api.Step{timed(73, 1, 0), timed(137, 1, 0)} }

// frames are those of the examples of layer 4.
func frames() []api.Frame {
	return []api.Frame{
		{Size: 2, Every: 10, Due: 6, Rank: 1},
		{Size: 3, Every: 15, Jitter: 2, Due: 12, Rank: 2},
		{Size: 4, Every: 20, Due: 20, Rank: 3},
	}
}

// greatest and least are the limits of steps.
func greatest() api.Step { return loose(api.MaxPeriod, api.MaxPeriod) }
func least() api.Step    { return loose(1, 1) }

// among returns a number from low to high, often one of the two.
func among(r *rand.Rand, low, high int) int {
	switch r.Intn(8) {
	case 0:
		return low
	case 1:
		return high
	}
	return low + r.Intn(high-low+1)
}

// randomTimed returns a timed chain whose round is at most 450.
func randomTimed(r *rand.Rand, n int) []api.Step {
	tables := [][]int{{1, 2, 3, 4, 6, 12}, {2, 4, 5, 10, 20}, {2, 3, 5, 6, 15, 30}, {3, 4, 7}, {1, 40, 8, 45}, {6}, {1, 9, 50}}
	table := tables[r.Intn(len(tables))]
	var l []api.Step
	for range n {
		every := table[r.Intn(len(table))]
		l = append(l, timed(every, among(r, 1, every), among(r, 0, every-1)))
	}
	return l
}

// randomLoose returns a loose chain.
func randomLoose(r *rand.Rand, n int) []api.Step {
	var l []api.Step
	for range n {
		l = append(l, loose(among(r, 1, 12), among(r, 1, 30)))
	}
	return l
}

// randomRuns returns when the runs of a loose step start and end, often as soon as they may, or as late.
func randomRuns(r *rand.Rand, s api.Step, n int) (starts, ends []int) {
	start, end := 0, 0
	for k := range n {
		start = max(start, k*s.Every)
		start = among(r, start, k*s.Every+s.Response-1)
		end = among(r, max(start+1, end), k*s.Every+s.Response)
		starts, ends = append(starts, start), append(ends, end)
	}
	return starts, ends
}

// randomPlay returns a play of a loose chain, with so many runs of each step.
func randomPlay(r *rand.Rand, l []api.Step, runs func(i int) int) (starts, ends [][]int) {
	for i, s := range l {
		a, b := randomRuns(r, s, runs(i))
		starts, ends = append(starts, a), append(ends, b)
	}
	return starts, ends
}

// randomFrames returns valid frames; some of them need more than the bus.
func randomFrames(r *rand.Rand, n int) []api.Frame {
	var l []api.Frame
	for _, rank := range r.Perm(n + 3)[:n] {
		size := 1 + r.Intn(3)
		l = append(l, api.Frame{Size: size, Every: size*n + r.Intn(20), Jitter: among(r, 0, 9), Due: 50, Rank: rank})
	}
	return l
}

// randomly calls what looks at some timed chain many times.
func randomly(t *testing.T, times int, look func(r *rand.Rand, l []api.Step)) {
	t.Helper()
	r := rand.New(rand.NewSource(5))
	for range times {
		l := randomTimed(r, 1+r.Intn(5))
		if e := chain.Check(l); e != api.OK {
			t.Fatalf("Check of %v: %d", l, e)
		}
		look(r, l)
		if t.Failed() {
			t.Fatalf("with the chain %v", l)
		}
	}
}

// isRead reports whether a timed step reads at a time.
func isRead(s api.Step, t int) bool { return (t-s.Offset)%s.Every == 0 }

// found is the plain definition of what one finds who reads at a time: of the runs of a step that write then or before the one that reads last.
func found(s api.Step, t int) int {
	for read := t; ; read-- {
		if isRead(s, read) && read+s.Response <= t {
			return read
		}
	}
}

// round is the plain definition of the round.
func round(l []api.Step) int {
	for n := 1; ; n++ {
		if !slices.ContainsFunc(l, func(s api.Step) bool { return n%s.Every != 0 }) {
			return n
		}
	}
}

// bounds is the plain definition of what Bound returns.
func bounds(l []api.Step) (age, reaction int) {
	for i, s := range l {
		age += s.Response
		reaction += s.Response + s.Every - 1
		if i < len(l)-1 {
			age += s.Every - 1
		}
	}
	return age, reaction
}

// trace is the plain definition of how a value came to the run of the last step that reads at a time.
func trace(l []api.Step, read int) chain.Trace {
	n := len(l)
	x := chain.Trace{Reads: make([]int, n)}
	x.Reads[n-1] = read
	for i := n - 2; i >= 0; i-- {
		x.Reads[i] = found(l[i], x.Reads[i+1])
	}
	x.Age = read + l[n-1].Response - x.Reads[0]
	return x
}

// traces is the plain definition of the runs of the last step that read in a round.
func traces(l []api.Step) []chain.Trace {
	var all []chain.Trace
	for read := range round(l) {
		if isRead(l[len(l)-1], read) {
			all = append(all, trace(l, read))
		}
	}
	return all
}

// oldest is the plain definition of the greatest age and its trace.
func oldest(l []api.Step) chain.Trace {
	return slices.MaxFunc(traces(l), func(a, b chain.Trace) int { return a.Age - b.Age })
}

// youngest is the plain definition of the least age.
func youngest(l []api.Step) int {
	return slices.MinFunc(traces(l), func(a, b chain.Trace) int { return a.Age - b.Age }).Age
}

// reaction is the plain definition of the greatest reaction: for each time of a round the first run that depends on that time or a later one.
func reaction(l []api.Step) int {
	most, last := 0, l[len(l)-1]
	origins := map[int]int{}
	for x := range round(l) {
		read := x
		for ; ; read++ {
			if !isRead(last, read) {
				continue
			}
			if _, is := origins[read]; !is {
				origins[read] = trace(l, read).Reads[0]
			}
			if origins[read] >= x {
				break
			}
		}
		most = max(most, read+last.Response-x)
	}
	return most
}

// lost is the plain definition of how many runs of the first step are lost.
func lost(l []api.Step) int {
	age, _ := bounds(l)
	used := map[int]bool{}
	for read := 0; read <= round(l)+age; read++ {
		if isRead(l[len(l)-1], read) {
			used[trace(l, read).Reads[0]] = true
		}
	}
	n := 0
	for read := range round(l) {
		if isRead(l[0], read) && !used[read] {
			n++
		}
	}
	return n
}

// doubled is the plain definition of how many runs of the last step depend on what the run before depends on.
func doubled(l []api.Step) int {
	n := 0
	for _, x := range traces(l) {
		if trace(l, x.Reads[len(l)-1]-l[len(l)-1].Every).Reads[0] == x.Reads[0] {
			n++
		}
	}
	return n
}

// shifted returns a chain with another offset of a step.
func shifted(l []api.Step, step, offset int) []api.Step {
	l = slices.Clone(l)
	l[step].Offset = offset
	return l
}

// ages is the plain definition of the ages of a play.
func ages(l []api.Step, starts, ends [][]int) []int {
	// origin returns the run of the first step on which a run of a step depends, or -1.
	var origin func(i, k int) int
	origin = func(i, k int) int {
		if i == 0 {
			return k
		}
		for before := len(ends[i-1]) - 1; before >= 0; before-- {
			if ends[i-1][before] <= starts[i][k] {
				return origin(i-1, before)
			}
		}
		return -1
	}
	var all []int
	last := len(l) - 1
	for k, end := range ends[last] {
		age := -1
		if first := origin(last, k); first >= 0 {
			age = end - starts[0][first]
		}
		all = append(all, age)
	}
	return all
}

// patterns returns releases that keep the patterns of frames with all offsets 0: frame by frame, or as time goes by.
func patterns(r *rand.Rand, l []api.Frame, often func(f api.Frame) int) []api.Release {
	var releases []api.Release
	for i, f := range l {
		at := 0
		for k := range often(f) {
			at = among(r, max(at, k*f.Every), k*f.Every+f.Jitter)
			releases = append(releases, api.Release{Frame: i, At: at})
		}
	}
	if r.Intn(2) == 0 {
		slices.SortStableFunc(releases, func(a, b api.Release) int { return a.At - b.At })
	}
	return releases
}

// playOfFrames returns, for each of some frames, the times of its releases, and when they have been sent.
func playOfFrames(t *testing.T, l []api.Frame, releases []api.Release, which []int) (starts, ends [][]int) {
	t.Helper()
	is, e := bus.Keeps(l, releases, make([]int, len(l)))
	want(t, "Keeps", results(is, e), results(true, api.OK))
	sent, e := bus.Play(l, releases)
	want(t, "the error of Play", e, api.OK)
	starts, ends = make([][]int, len(which)), make([][]int, len(which))
	for i, frame := range which {
		for k, x := range releases {
			if x.Frame == frame {
				starts[i], ends[i] = append(starts[i], x.At), append(ends[i], sent[k])
			}
		}
	}
	return starts, ends
}

// want reports a result that is not what it should be; nil and empty lists are the same.
func want(t *testing.T, what string, got, should any) {
	t.Helper()
	if g, s := fmt.Sprint(got), fmt.Sprint(should); g != s {
		t.Errorf("%s is %s; it should be %s", what, g, s)
	}
}

// results makes one value of several results.
func results(l ...any) []any { return l }

// The functions below make one value of what the functions of the package return.

func fromFramesOf(frames []api.Frame, which ...int) []any {
	l, e := chain.FromFrames(frames, which)
	return results(l, e)
}

func boundOf(l []api.Step) []any {
	age, reaction, e := chain.Bound(l)
	return results(age, reaction, e)
}

func roundOf(l []api.Step) []any {
	n, e := chain.Round(l)
	return results(n, e)
}

func ageOf(l []api.Step) []any {
	x, e := chain.Age(l)
	return results(x, e)
}

func leastOf(l []api.Step) []any {
	n, e := chain.Least(l)
	return results(n, e)
}

func reactionOf(l []api.Step) []any {
	n, e := chain.Reaction(l)
	return results(n, e)
}

func lostOf(l []api.Step) []any {
	n, e := chain.Lost(l)
	return results(n, e)
}

func doubledOf(l []api.Step) []any {
	n, e := chain.Doubled(l)
	return results(n, e)
}

func shiftOf(l []api.Step, step int) []any {
	offset, age, e := chain.Shift(l, step)
	return results(offset, age, e)
}

func playOf(l []api.Step, starts, ends [][]int) []any {
	all, e := chain.Play(l, starts, ends)
	return results(all, e)
}

func withinOf(l []api.Step, age, reaction int) []any {
	is, e := chain.Within(l, age, reaction)
	return results(is, e)
}
