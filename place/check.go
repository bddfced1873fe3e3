package place

import (
	"slices"

	"ignition/api"
)

// isMany reports whether a problem has more of something than it may.
func isMany(p api.Problem) bool {
	return len(p.Tasks) > api.MaxTasks || len(p.Hosts) > api.MaxHosts ||
		len(p.Binds) > api.MaxBinds || len(p.Talks) > api.MaxTalks
}

// isName reports whether a task or a host may be called so.
func isName(s string) bool {
	if len(s) == 0 || len(s) > api.MaxName {
		return false
	}
	for i := range len(s) {
		if s[i] < 'a' || s[i] > 'z' {
			return false
		}
	}
	return true
}

// areCosts reports whether all numbers are from 0 to MaxCost.
func areCosts(numbers ...int) bool {
	return !slices.ContainsFunc(numbers, func(n int) bool { return n < 0 || n > api.MaxCost })
}

// isLevel reports whether there is such a level.
func isLevel(n int) bool { return n >= 0 && n <= api.MaxLevel }

// areTasks reports whether tasks are right.
func areTasks(tasks []api.Task) bool {
	for i, t := range tasks {
		same := func(other api.Task) bool { return other.Name == t.Name }
		if !isName(t.Name) || slices.ContainsFunc(tasks[:i], same) || !areCosts(t.Memory, t.Time) || !isLevel(t.Level) {
			return false
		}
	}
	return true
}

// areHosts reports whether hosts are right.
func areHosts(hosts []api.Host) bool {
	for i, h := range hosts {
		same := func(other api.Host) bool { return other.Name == h.Name }
		if !isName(h.Name) || slices.ContainsFunc(hosts[:i], same) || !areCosts(h.Memory, h.Time, h.Zone, h.Price) || !isLevel(h.Level) {
			return false
		}
	}
	return true
}

// isOf reports whether a number is that of one of n things.
func isOf(number, n int) bool { return number >= 0 && number < n }

// areBonds reports whether the bonds of a problem are right.
func areBonds(p api.Problem) bool {
	for _, b := range p.Binds {
		if !isOf(b.A, len(p.Tasks)) {
			return false
		}
		switch b.Kind {
		case api.Apart, api.Together, api.Zoned:
			if !isOf(b.B, len(p.Tasks)) || b.A == b.B {
				return false
			}
		case api.Barred, api.Fixed:
			if !isOf(b.B, len(p.Hosts)) {
				return false
			}
		default:
			return false
		}
	}
	return true
}

// areTalks reports whether the talks of a problem are right.
func areTalks(p api.Problem) bool {
	for _, t := range p.Talks {
		if !isOf(t.A, len(p.Tasks)) || !isOf(t.B, len(p.Tasks)) || t.A == t.B || !areCosts(t.Weight) {
			return false
		}
	}
	return true
}

// isBegin reports whether there is a host for each of the first tasks.
func isBegin(p api.Problem, begin []int) bool {
	none := func(host int) bool { return !isOf(host, len(p.Hosts)) }
	return len(begin) <= len(p.Tasks) && !slices.ContainsFunc(begin, none)
}

// checkBegin returns the first error of a problem and a beginning.
func checkBegin(p api.Problem, begin []int) api.Errno {
	if e := Check(p); e != api.OK {
		return e
	}
	if !isBegin(p, begin) {
		return api.ErrPlan
	}
	return api.OK
}

// checkPlan returns the first error of a problem and a plan.
func checkPlan(p api.Problem, plan []int) api.Errno {
	if e := checkBegin(p, plan); e != api.OK {
		return e
	}
	if len(plan) < len(p.Tasks) {
		return api.ErrPlan
	}
	return api.OK
}
