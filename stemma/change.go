package stemma

import (
	"slices"

	"vyakarana/api"
)

// Apart: see P7.5.
func Apart(t [][]int, i, j int) (int, api.Errno) {
	if e := validateCopies(t, i, j); e != api.OK {
		return 0, e
	}
	n := 0
	for p, r := range t[i] {
		if r != t[j][p] {
			n++
		}
	}
	return n, api.OK
}

// Doubles: see P7.5.
func Doubles(t [][]int) ([][]int, api.Errno) {
	if e := Validate(t); e != api.OK {
		return nil, e
	}
	var list [][]int
	for c, readings := range t {
		k := slices.IndexFunc(list, func(set []int) bool { return slices.Equal(t[set[0]], readings) })
		if k < 0 {
			list = append(list, []int{c})
		} else {
			list[k] = append(list[k], c)
		}
	}
	return list, api.OK
}

// Spell: see P7.5.
func Spell(t [][]int, place int, to []int) ([][]int, api.Errno) {
	if e := validatePlaces(t, place); e != api.OK {
		return nil, e
	}
	if !areAllReadings(to) {
		return nil, api.ErrArg
	}
	s := copied(t)
	for _, readings := range s {
		readings[place] = to[readings[place]]
	}
	return s, api.OK
}

// Without: see P7.5.
func Without(t [][]int, place int) ([][]int, api.Errno) {
	if e := validatePlaces(t, place); e != api.OK {
		return nil, e
	}
	if len(t[0]) == 1 {
		return nil, api.ErrArg
	}
	w := copied(t)
	for c, readings := range w {
		w[c] = slices.Delete(readings, place, place+1)
	}
	return w, api.OK
}

// Lose: see P7.5.
func Lose(t [][]int, copy int) ([][]int, api.Errno) {
	if e := validateCopies(t, copy); e != api.OK {
		return nil, e
	}
	if len(t) == 1 {
		return nil, api.ErrArg
	}
	return slices.Delete(copied(t), copy, copy+1), api.OK
}

// copied returns readings in memory of their own.
func copied(t [][]int) [][]int {
	list := make([][]int, len(t))
	for c, readings := range t {
		list[c] = make([]int, len(readings))
		copy(list[c], readings)
	}
	return list
}

// areAllReadings reports whether each number from 0 to api.MaxReading is in a list just once.
func areAllReadings(list []int) bool {
	for r := range api.MaxReading + 1 {
		if !slices.Contains(list, r) {
			return false
		}
	}
	return len(list) == api.MaxReading+1
}
