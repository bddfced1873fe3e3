package place

import (
	"slices"

	"ignition/api"
)

// Why a leaf is the end of a branch.
const (
	notAllowed = 1
	notCheaper = 2
)

// prove returns the leaves of the search for a plan that is cheaper than the best one.
func prove(p api.Problem) ([]api.Leaf, api.Errno) {
	best := firstPlans(p, 1, nil)
	stop := func(b beginning) bool { return b.hopeless || len(best) > 0 && b.bound >= best[0].cost }
	var leaves []api.Leaf
	for b := range newChart(p).ends(stop) {
		if len(leaves) == api.MaxLeaves {
			return nil, api.ErrMany
		}
		why := notCheaper
		if b.hopeless {
			why = notAllowed
		}
		leaves = append(leaves, api.Leaf{Plan: b.plan(), Why: why})
	}
	return leaves, api.OK
}

// areTrue reports whether leaves are beginnings, and what they say of them is true for a cost.
func areTrue(p api.Problem, leaves []api.Leaf, cost int) bool {
	c := newChart(p)
	for _, l := range leaves {
		if !isBegin(p, l.Plan) {
			return false
		}
		b := c.begin(l.Plan)
		if !(l.Why == notAllowed && b.hopeless || l.Why == notCheaper && b.bound >= cost) {
			return false
		}
	}
	return true
}

// divide reports whether every plan begins with just one of the leaves.
func divide(p api.Problem, leaves []api.Leaf) bool {
	if len(p.Hosts) == 0 && len(p.Tasks) > 0 { // there are no plans
		return true
	}
	left := slices.Clone(leaves)
	slices.SortFunc(left, func(a, b api.Leaf) int { return slices.Compare(a.Plan, b.Plan) })
	isNext := func(b beginning) bool { return len(left) > 0 && slices.Equal(b.hosts[:b.placed], left[0].Plan) }
	for _, whole := range newChart(p).ends(isNext) {
		if whole {
			return false
		}
		left = left[1:]
	}
	return len(left) == 0
}
