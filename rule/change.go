package rule

import (
	"cmp"
	"slices"

	"vyakarana/api"
)

// Gain: see P2.4.
func Gain(r, s api.Rule, w []int, place int) (int, api.Errno) {
	if e := cmp.Or(Validate(r), Validate(s), ValidateWord(w)); e != api.OK {
		return 0, e
	}
	v, e := apply(r, w, place)
	if e != api.OK {
		return 0, e
	}
	return len(places(s, v)) - len(places(s, w)), api.OK
}

// Commute: see P2.4.
func Commute(r, s api.Rule, w []int) (bool, api.Errno) {
	if e := cmp.Or(Validate(r), Validate(s), ValidateWord(w)); e != api.OK {
		return false, e
	}
	u, e := inTurn(w, r, s)
	if e != api.OK {
		return false, e
	}
	v, e := inTurn(w, s, r)
	if e != api.OK {
		return false, e
	}
	return slices.Equal(u, v), api.OK
}

// Mirror: see P2.5.
func Mirror(r api.Rule) (api.Rule, api.Errno) {
	if e := Validate(r); e != api.OK {
		return api.Rule{}, e
	}
	return api.Rule{From: r.From, To: back(r.To), Left: slices.Clone(r.Right), Right: slices.Clone(r.Left)}, api.OK
}

// Back: see P2.5.
func Back(w []int) ([]int, api.Errno) {
	if e := ValidateWord(w); e != api.OK {
		return nil, e
	}
	return back(w), api.OK
}

// Rename: see P2.5.
func Rename(r api.Rule, to []int) (api.Rule, api.Errno) {
	if e := Validate(r); e != api.OK {
		return api.Rule{}, e
	}
	if !hasEachOnce(to) {
		return api.Rule{}, api.ErrArg
	}
	s := api.Rule{From: newSound(r.From, to), To: newSounds(r.To, to), Left: newSounds(r.Left, to), Right: newSounds(r.Right, to)}
	slices.Sort(s.Left)
	slices.Sort(s.Right)
	return s, api.OK
}

// Spell: see P2.5.
func Spell(w []int, to []int) ([]int, api.Errno) {
	if e := ValidateWord(w); e != api.OK {
		return nil, e
	}
	if !hasEachOnce(to) {
		return nil, api.ErrArg
	}
	return newSounds(w, to), api.OK
}

// Measure: see P2.5.
func Measure(r api.Rule) (int, api.Errno) {
	if e := Validate(r); e != api.OK {
		return 0, e
	}
	return len(r.To) + len(r.Left) + len(r.Right) + taken(r), api.OK
}

// inTurn applies rules to a word one after another, each at all of its places.
func inTurn(w []int, rules ...api.Rule) ([]int, api.Errno) {
	for _, r := range rules {
		v, e := put(r, w, places(r, w)...)
		if e != api.OK {
			return nil, e
		}
		w = v
	}
	return w, api.OK
}

// back returns a list turned round.
func back(list []int) []int {
	turned := slices.Clone(list)
	slices.Reverse(turned)
	return turned
}

// newSound returns what a sound is replaced by; the edge, and nothing, stay.
func newSound(s int, to []int) int {
	if !isSound(s) {
		return s
	}
	return to[s]
}

func newSounds(list, to []int) []int {
	other := make([]int, len(list))
	for i, s := range list {
		other[i] = newSound(s, to)
	}
	return other
}

// hasEachOnce reports whether a list has each sound once.
func hasEachOnce(list []int) bool {
	var seen [api.MaxSounds]bool
	for _, s := range list {
		if !isSound(s) || seen[s] {
			return false
		}
		seen[s] = true
	}
	return len(list) == api.MaxSounds
}
