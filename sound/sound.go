// Package sound is layer 1: see shared/doc/01-sound.md.
package sound

import (
	"cmp"
	"slices"

	"vyakarana/api"
)

// Validate: see P1.1.
func Validate(t [][]int) api.Errno {
	if len(t) < 1 || len(t) > api.MaxRows {
		return api.ErrLarge
	}
	for _, row := range t {
		if len(row) == 0 || !allBelow(row, api.MaxSounds) {
			return api.ErrArg
		}
	}
	if hasTwice(t...) {
		return api.ErrTwice
	}
	return api.OK
}

// Sounds: see P1.2.
func Sounds(t [][]int) ([]int, api.Errno) {
	if e := Validate(t); e != api.OK {
		return nil, e
	}
	return slices.Concat(t...), api.OK
}

// Row: see P1.2.
func Row(t [][]int, sound int) (int, bool, api.Errno) {
	if e := Validate(t); e != api.OK {
		return 0, false, e
	}
	row, ok := rowOf(t, sound)
	return row, ok, api.OK
}

// Stand: see P1.2.
func Stand(t [][]int, name api.Name) ([]int, api.Errno) {
	if e := Validate(t); e != api.OK {
		return nil, e
	}
	row, ok := rowOf(t, name.Sound)
	if !ok || name.Row < row || name.Row >= len(t) {
		return nil, api.ErrNone
	}
	return stand(t, name), api.OK
}

// Names: see P1.2.
func Names(t [][]int) ([]api.Name, api.Errno) {
	if e := Validate(t); e != api.OK {
		return nil, e
	}
	return names(t), api.OK
}

// Named: see P1.2.
func Named(t [][]int, set []int) ([]api.Name, api.Errno) {
	if e := Validate(t); e != api.OK {
		return nil, e
	}
	if !isSet(set, api.MaxSounds) {
		return nil, api.ErrArg
	}
	return slices.DeleteFunc(names(t), func(name api.Name) bool {
		return !slices.Equal(stand(t, name), set)
	}), api.OK
}

// Classes: see P1.2.
func Classes(t [][]int) ([][]int, api.Errno) {
	if e := Validate(t); e != api.OK {
		return nil, e
	}
	return classes(t), api.OK
}

// rank is a name that is compared with others.
type rank api.Name

func (a rank) compare(b rank) int {
	return cmp.Or(cmp.Compare(a.Sound, b.Sound), cmp.Compare(a.Row, b.Row))
}

// names returns all names of a valid table, in ascending order.
func names(t [][]int) []api.Name {
	var ranks []rank
	for first, row := range t {
		for _, sound := range row {
			for last := first; last < len(t); last++ {
				ranks = append(ranks, rank{Sound: sound, Row: last})
			}
		}
	}
	slices.SortFunc(ranks, rank.compare)
	list := make([]api.Name, len(ranks))
	for i, a := range ranks {
		list[i] = api.Name(a)
	}
	return list
}

// stand returns the set for which a name of the table stands.
func stand(t [][]int, name api.Name) []int {
	sounds := slices.Concat(t[:name.Row+1]...)
	set := slices.Clone(sounds[slices.Index(sounds, name.Sound):])
	slices.Sort(set)
	return set
}

// classes returns the sets of all names of a valid table, in ascending order. No set comes twice: a
// later row brings sounds that the earlier ones have not, and a later sound in the same row loses some.
func classes(t [][]int) [][]int {
	var list [][]int
	for _, name := range names(t) {
		list = append(list, stand(t, name))
	}
	slices.SortFunc(list, slices.Compare)
	return list
}

// rowOf returns the row of a sound, and whether it is in the table.
func rowOf(t [][]int, sound int) (int, bool) {
	for i, row := range t {
		if slices.Contains(row, sound) {
			return i, true
		}
	}
	return 0, false
}

// allBelow reports whether all numbers are from 0 to n - 1.
func allBelow(list []int, n int) bool {
	for _, x := range list {
		if x < 0 || x >= n {
			return false
		}
	}
	return true
}

// hasTwice reports whether a sound is in lists of sounds, all taken together, more than once.
func hasTwice(lists ...[]int) bool {
	var seen [api.MaxSounds]bool
	for _, sounds := range lists {
		for _, s := range sounds {
			if seen[s] {
				return true
			}
			seen[s] = true
		}
	}
	return false
}

// isSet reports whether a list is a set of numbers from 0 to n - 1.
func isSet(list []int, n int) bool {
	for i := 1; i < len(list); i++ {
		if list[i-1] >= list[i] {
			return false
		}
	}
	return allBelow(list, n)
}

// isOrder reports whether a list has each number from 0 to n - 1 once.
func isOrder(list []int, n int) bool {
	return len(list) == n && allBelow(list, n) && !hasTwice(list)
}
