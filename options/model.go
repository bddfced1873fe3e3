package options

import "ignition/api"

// isName reports whether an option may be called so.
func isName(s string) bool {
	if len(s) == 0 || len(s) > api.MaxName || s == "yes" || s == "no" || !isLetter(s[0]) {
		return false
	}
	for i := range len(s) {
		if !isLetter(s[i]) && !isDigit(s[i]) {
			return false
		}
	}
	return true
}

func isLetter(c byte) bool { return c >= 'a' && c <= 'z' }

func isDigit(c byte) bool { return c >= '0' && c <= '9' }

// checkNames returns ErrOption unless all names are names, and different.
func checkNames(names []string) api.Errno {
	seen := map[string]bool{}
	for _, name := range names {
		if !isName(name) || seen[name] {
			return api.ErrOption
		}
		seen[name] = true
	}
	return api.OK
}

// checkFormulas returns ErrFormula unless all formulas are valid for n options.
func checkFormulas(n int, l ...api.Formula) api.Errno {
	for _, f := range l {
		if !valid(f, n) {
			return api.ErrFormula
		}
	}
	return api.OK
}

// check returns the error of CheckModel, then that of the formulas.
func check(m api.Model, l ...api.Formula) api.Errno {
	if e := CheckModel(m); e != api.OK {
		return e
	}
	return checkFormulas(len(m.Options), l...)
}

// checkList returns the error of CheckModel, then ErrMany for a list that is too long, then that of its formulas.
func checkList(m api.Model, l []api.Formula) api.Errno {
	if e := CheckModel(m); e != api.OK {
		return e
	}
	if len(l) > api.MaxForms {
		return api.ErrMany
	}
	return checkFormulas(len(m.Options), l...)
}

// checkVariant returns the error of check, then ErrArg unless the variant is as long as Options.
func checkVariant(m api.Model, v []bool, l ...api.Formula) api.Errno {
	if e := check(m, l...); e != api.OK {
		return e
	}
	if len(v) != len(m.Options) {
		return api.ErrArg
	}
	return api.OK
}
