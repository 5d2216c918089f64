package machine

import (
	"slices"

	"vyakarana/api"
)

// Relates: see P5.2.
func Relates(m api.Machine, u, v []int) (bool, api.Errno) {
	_, ok, e := Run(m, u, v)
	return ok, e
}

// Run: see P5.2.
func Run(m api.Machine, u, v []int) (run []int, ok bool, e api.Errno) {
	if e = validate(m, u, v); e != api.OK || len(u) != len(v) {
		return nil, false, e
	}
	defer func() {
		if f, is := recover().(found); is {
			run, ok = f.run, true
		}
	}()
	search(m, u, v)
	return nil, false, api.OK
}

// Runs: see P5.2.
func Runs(m api.Machine, u, v []int) (int, api.Errno) {
	if e := validate(m, u, v); e != api.OK || len(u) != len(v) {
		return 0, e
	}
	return count(m, len(u), relating(u, v)), api.OK
}

// Images: see P5.2.
func Images(m api.Machine, u []int) ([][]int, api.Errno) {
	if e := validate(m, u); e != api.OK {
		return nil, e
	}
	return listed(words(m, len(u), reading(u), out, api.MaxReach+1))
}

// Sources: see P5.2.
func Sources(m api.Machine, v []int) ([][]int, api.Errno) {
	if e := validate(m, v); e != api.OK {
		return nil, e
	}
	return listed(words(m, len(v), writing(v), in, api.MaxReach+1))
}

// Accepts: see P5.2.
func Accepts(m api.Machine, u []int) (bool, api.Errno) {
	if e := validate(m, u); e != api.OK {
		return false, e
	}
	return hasRun(m, len(u), reading(u)), api.OK
}

// Count: see P5.2.
func Count(m api.Machine, length int) (int, api.Errno) {
	if e := Validate(m); e != api.OK {
		return 0, e
	}
	if length < 0 || length > api.MaxLength {
		return 0, api.ErrArg
	}
	return count(m, length, anything), api.OK
}

// Shortest: see P5.3.
func Shortest(m api.Machine) ([]int, []int, bool, api.Errno) {
	if e := Validate(m); e != api.OK {
		return nil, nil, false, e
	}
	// A shortest run comes to no state twice, so that it has fewer arcs than there are states.
	for length := range m.States {
		if hasRun(m, length, anything) {
			u := words(m, length, anything, in, 1)[0]
			v := words(m, length, reading(u), out, 1)[0]
			return u, v, true, api.OK
		}
	}
	return nil, nil, false, api.OK
}

// found is what a search for a run stops with.
type found struct {
	run []int
}

// search looks for a run that reads u and writes v, of the same length, and panics with the first one.
func search(m api.Machine, u, v []int) {
	// What failed once from a state at a place fails again: without this, there might be millions of tries.
	failed := make([]group, len(u))
	may := relating(u, v)
	var visit func(state int, run []int)
	visit = func(state int, run []int) {
		place := len(run)
		if place == len(u) {
			if isEnd(m, state) {
				panic(found{run})
			}
			return
		}
		if failed[place][state] {
			return
		}
		failed[place][state] = true
		for k, a := range m.Arcs {
			if a.From == state && may(place, a) {
				visit(a.To, append(run, k))
			}
		}
	}
	visit(0, nil)
}

// listed returns words if they are not too many to be listed.
func listed(list [][]int) ([][]int, api.Errno) {
	if len(list) > api.MaxReach {
		return nil, api.ErrLarge
	}
	return list, api.OK
}

// pattern tells whether a run may have an arc at a place.
type pattern func(place int, a api.Arc) bool

func anything(int, api.Arc) bool {
	return true
}

func reading(u []int) pattern {
	return func(place int, a api.Arc) bool { return a.In == u[place] }
}

func writing(v []int) pattern {
	return func(place int, a api.Arc) bool { return a.Out == v[place] }
}

func relating(u, v []int) pattern {
	return func(place int, a api.Arc) bool { return a.In == u[place] && a.Out == v[place] }
}

func in(a api.Arc) int {
	return a.In
}

func out(a api.Arc) int {
	return a.Out
}

// group is a set of states.
type group [api.MaxStates]bool

// groupOf returns the states of a list.
func groupOf(list []int) group {
	var g group
	for _, s := range list {
		g[s] = true
	}
	return g
}

// alive returns, for each place of the runs of a pattern and for the place behind them, the states from
// which arcs at the places from it on lead to an end.
func alive(m api.Machine, length int, may pattern) []group {
	groups := make([]group, length+1)
	groups[length] = groupOf(m.Ends)
	for place := length - 1; place >= 0; place-- {
		for _, a := range m.Arcs {
			if groups[place+1][a.To] && may(place, a) {
				groups[place][a.From] = true
			}
		}
	}
	return groups
}

// hasRun reports whether there is a run of a pattern.
func hasRun(m api.Machine, length int, may pattern) bool {
	return alive(m, length, may)[0][0]
}

// count returns how many runs of a pattern there are. With at most MaxLength arcs in each, they are no
// more than an int can hold: MaxArcs to the power of MaxLength is below 2^63.
func count(m api.Machine, length int, may pattern) int {
	var runs [api.MaxStates]int
	for _, s := range m.Ends {
		runs[s] = 1
	}
	for place := length - 1; place >= 0; place-- {
		var longer [api.MaxStates]int
		for _, a := range m.Arcs {
			if may(place, a) {
				longer[a.From] += runs[a.To]
			}
		}
		runs = longer
	}
	return runs[0]
}

// words returns, in ascending order, the words that one side of the runs of a pattern makes, and of more
// than most of them the first ones. No sound is tried that leads to no word: without the limit they might
// be millions.
func words(m api.Machine, length int, may pattern, side func(api.Arc) int, most int) [][]int {
	groups := alive(m, length, may)
	var list [][]int
	var visit func(w []int, at group)
	visit = func(w []int, at group) {
		place := len(w)
		if place == length {
			list = append(list, slices.Clone(w))
			return
		}
		var next [api.MaxSounds]group
		for _, a := range m.Arcs {
			if at[a.From] && groups[place+1][a.To] && may(place, a) {
				next[side(a)][a.To] = true
			}
		}
		for sound, to := range next {
			if to != (group{}) && len(list) < most {
				visit(append(w, sound), to)
			}
		}
	}
	if groups[0][0] {
		visit(nil, groupOf([]int{0}))
	}
	return list
}
