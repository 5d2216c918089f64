package order

import (
	"cmp"
	"slices"

	"vyakarana/api"
	"vyakarana/feed"
	"vyakarana/rule"
)

// The greatest arguments of Bases.
const (
	maxSounds = 3
	maxLength = 4
)

// Derive: see P4.4.
func Derive(s []api.Rule, w []int, grounds []int) ([]api.Choice, []int, api.Errno) {
	if e := validate(s, w, grounds); e != api.OK {
		return nil, nil, e
	}
	choices, form, ok := derive(s, w, grounds)
	if !ok {
		return nil, nil, api.ErrLarge
	}
	return choices, form, api.OK
}

// Form: see P4.4.
func Form(s []api.Rule, w []int, grounds []int) ([]int, api.Errno) {
	_, form, e := Derive(s, w, grounds)
	return form, e
}

// CheckDerivation: see P4.4.
func CheckDerivation(s []api.Rule, w []int, grounds []int, l []api.Choice) (int, api.Errno) {
	if e := validate(s, w, grounds); e != api.OK {
		return 0, e
	}
	if len(l) > api.MaxSteps {
		return 0, api.ErrLarge
	}
	choices, _, ok := derive(s, w, grounds)
	n := agreed(l, choices)
	if !ok || n < len(l) || n < len(choices) {
		return n, api.ErrProof
	}
	return n, api.OK
}

// Differ: see P4.5.
func Differ(s []api.Rule, w []int, g, h []int) (int, bool, api.Errno) {
	if e := cmp.Or(validate(s, w, g), Validate(h)); e != api.OK {
		return 0, false, e
	}
	a, _, ok := derive(s, w, g)
	if !ok {
		return 0, false, api.ErrLarge
	}
	b, _, ok := derive(s, w, h)
	if !ok {
		return 0, false, api.ErrLarge
	}
	n := agreed(stepsOf(a), stepsOf(b))
	if n == len(a) && n == len(b) {
		return 0, false, api.OK
	}
	return n, true, api.OK
}

// Forms: see P4.5.
func Forms(s []api.Rule, w []int) ([][]int, api.Errno) {
	if e := validate(s, w, nil); e != api.OK {
		return nil, e
	}
	var forms [][]int
	for _, grounds := range orders([]int{special, lasting, inner, later}) {
		if _, form, ok := derive(s, w, grounds); ok {
			forms = append(forms, form)
		}
	}
	slices.SortFunc(forms, slices.Compare)
	return slices.CompactFunc(forms, slices.Equal), api.OK
}

// Used: see P4.5.
func Used(s []api.Rule, w []int, grounds []int) ([]int, api.Errno) {
	choices, _, e := Derive(s, w, grounds)
	if e != api.OK {
		return nil, e
	}
	var set []int
	for _, c := range choices {
		if c.Ground > 0 {
			set = append(set, c.Ground)
		}
	}
	slices.Sort(set)
	return slices.Compact(set), api.OK
}

// Needless: see P4.5.
func Needless(s []api.Rule, w []int, grounds []int) ([]int, api.Errno) {
	form, e := Form(s, w, grounds)
	if e != api.OK {
		return nil, e
	}
	var set []int
	for _, g := range grounds {
		if _, other, ok := derive(s, w, without(grounds, g)); ok && slices.Equal(other, form) {
			set = append(set, g)
		}
	}
	slices.Sort(set)
	return set, api.OK
}

// Bases: see P4.1 and P4.6.
func Bases(s []api.Rule, grounds, form []int, sounds, length int) ([][]int, api.Errno) {
	if e := cmp.Or(feed.Validate(s), Validate(grounds), rule.ValidateWord(form)); e != api.OK {
		return nil, e
	}
	if sounds < 1 || sounds > maxSounds || length < 0 || length > maxLength {
		return nil, api.ErrArg
	}
	var bases [][]int
	for _, w := range words(sounds, length) {
		if _, other, ok := derive(s, w, grounds); ok && slices.Equal(other, form) {
			bases = append(bases, w)
		}
	}
	return bases, api.OK
}

// derive returns the choices of a derivation, at most MaxSteps of them, the word to which they lead, and
// whether this is the end.
func derive(s []api.Rule, w, grounds []int) ([]api.Choice, []int, bool) {
	reasons := reasonsOf(grounds)
	var choices []api.Choice
	v := slices.Clone(w)
	for {
		list := candidates(s, v)
		if len(list) == 0 {
			return choices, v, true
		}
		if len(choices) == api.MaxSteps {
			return choices, v, false
		}
		choice, next := choose(list, reasons)
		choices = append(choices, choice)
		v = next
	}
}

// agreed returns how many elements at the beginning of two lists are the same.
func agreed[T comparable](a, b []T) int {
	n := 0
	for n < len(a) && n < len(b) && a[n] == b[n] {
		n++
	}
	return n
}

// stepsOf returns choices without their grounds.
func stepsOf(choices []api.Choice) []api.Step {
	steps := make([]api.Step, len(choices))
	for i, c := range choices {
		steps[i] = api.Step{Rule: c.Rule, Place: c.Place}
	}
	return steps
}

// orders returns all orders of a list of different numbers.
func orders(list []int) [][]int {
	if len(list) == 0 {
		return [][]int{nil}
	}
	var all [][]int
	for _, x := range list {
		for _, rest := range orders(without(list, x)) {
			all = append(all, append([]int{x}, rest...))
		}
	}
	return all
}

// words returns all words of at most length sounds, all of them below sounds, in ascending order.
func words(sounds, length int) [][]int {
	list := [][]int{nil}
	if length == 0 {
		return list
	}
	rest := words(sounds, length-1)
	for s := range sounds {
		for _, w := range rest {
			list = append(list, append([]int{s}, w...))
		}
	}
	return list
}
