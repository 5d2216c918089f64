package feed

import (
	"slices"

	"vyakarana/api"
)

// Reach: see P3.1 and P3.2.
func Reach(s []api.Rule, w []int) ([][]int, api.Errno) {
	x, e := webOf(s, w)
	if e != api.OK {
		return nil, e
	}
	slices.SortFunc(x.words, slices.Compare)
	return x.words, api.OK
}

// Ends: see P3.1 and P3.2.
func Ends(s []api.Rule, w []int) ([][]int, api.Errno) {
	x, e := webOf(s, w)
	if e != api.OK {
		return nil, e
	}
	return x.ends(), api.OK
}

// Forever: see P3.1 and P3.2.
func Forever(s []api.Rule, w []int) (bool, api.Errno) {
	x, e := webOf(s, w)
	if e != api.OK {
		return false, e
	}
	_, ok := x.longest()
	return !ok, api.OK
}

// Longest: see P3.1 and P3.2.
func Longest(s []api.Rule, w []int) (int, bool, api.Errno) {
	x, e := webOf(s, w)
	if e != api.OK {
		return 0, false, e
	}
	n, ok := x.longest()
	return n, ok, api.OK
}

// Path: see P3.1 and P3.3.
func Path(s []api.Rule, w, v []int) ([]api.Step, bool, api.Errno) {
	if e := validate(s, w, v); e != api.OK {
		return nil, false, e
	}
	x, e := explore(s, w)
	if e != api.OK {
		return nil, false, e
	}
	to, ok := x.numbers[key(v)]
	if !ok {
		return nil, false, api.OK
	}
	path := x.shortest(to)
	if len(path) > api.MaxSteps {
		return nil, false, api.OK
	}
	return path, true, api.OK
}

// Join: see P3.1 and P3.4.
func Join(s []api.Rule, u, v []int) (bool, api.Errno) {
	if e := validate(s, u, v); e != api.OK {
		return false, e
	}
	x, e := explore(s, u)
	if e != api.OK {
		return false, e
	}
	y, e := explore(s, v)
	if e != api.OK {
		return false, e
	}
	return slices.ContainsFunc(y.words, func(w []int) bool {
		_, ok := x.numbers[key(w)]
		return ok
	}), api.OK
}

// IsCalm: see P3.1 and P3.4.
func IsCalm(s []api.Rule, w []int) (bool, api.Errno) {
	x, e := webOf(s, w)
	if e != api.OK {
		return false, e
	}
	return x.isCalm(), api.OK
}

// One: see P3.1 and P3.4.
func One(s []api.Rule, w []int) ([]int, bool, api.Errno) {
	x, e := webOf(s, w)
	if e != api.OK {
		return nil, false, e
	}
	ends := x.ends()
	if _, ok := x.longest(); !ok || len(ends) != 1 {
		return nil, false, api.OK
	}
	return ends[0], true, api.OK
}

// Unused: see P3.1 and P3.6.
func Unused(s []api.Rule, w []int) ([]int, api.Errno) {
	x, e := webOf(s, w)
	if e != api.OK {
		return nil, e
	}
	var used [api.MaxRules]bool
	for _, arcs := range x.arcs {
		for _, a := range arcs {
			used[a.step.Rule] = true
		}
	}
	var set []int
	for k := range s {
		if !used[k] {
			set = append(set, k)
		}
	}
	return set, api.OK
}
