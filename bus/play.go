package bus

import (
	"cmp"
	"slices"

	"ignition/api"
)

// play returns the tick at which each release ends.
func play(l []api.Frame, releases []api.Release) []int {
	ends := make([]int, len(releases))
	free := 0
	for waiting := byImportance(l, releases); len(waiting) > 0; {
		next := slices.IndexFunc(waiting, func(r int) bool { return releases[r].At <= free })
		if next < 0 {
			free = earliest(releases, waiting)
			continue
		}
		r := waiting[next]
		free += l[releases[r].Frame].Size
		ends[r] = free
		waiting = slices.Delete(waiting, next, next+1)
	}
	return ends
}

// byImportance returns the numbers of all releases; of any that wait at the same time the first one is sent first.
func byImportance(l []api.Frame, releases []api.Release) []int {
	all := make([]int, len(releases))
	for r := range all {
		all[r] = r
	}
	slices.SortStableFunc(all, func(r, s int) int {
		a, b := releases[r], releases[s]
		return cmp.Or(cmp.Compare(l[a.Frame].Rank, l[b.Frame].Rank), cmp.Compare(a.At, b.At))
	})
	return all
}

// earliest returns the tick at which the first of some releases is handed to the bus.
func earliest(releases []api.Release, which []int) int {
	at := releases[which[0]].At
	for _, r := range which {
		at = min(at, releases[r].At)
	}
	return at
}

// keeps reports whether releases keep the patterns of their frames.
func keeps(l []api.Frame, releases []api.Release, offsets []int) bool {
	due := slices.Clone(offsets)
	last := make([]int, len(l))
	for _, r := range releases {
		f := r.Frame
		if !isFrom(max(due[f], last[f]), r.At, due[f]+l[f].Jitter) {
			return false
		}
		due[f] += l[f].Every
		last[f] = r.At
	}
	return true
}
