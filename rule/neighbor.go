package rule

import (
	"cmp"

	"vyakarana/api"
)

// edge stands for the edge of a word among the neighbors.
const edge = -1

// The sides of a place.
const (
	left = iota
	right
)

// neighbors is a set of sounds and the edge: the element n + 1 tells whether n is in it.
type neighbors [api.MaxSounds + 1]bool

// sides tells what a neighbor may be on either side of a place.
type sides [2]func(neighbor int) bool

// May: see P2.3.
func May(r api.Rule, side, neighbor int) (bool, api.Errno) {
	if e := Validate(r); e != api.OK {
		return false, e
	}
	if side != left && side != right || !isNeighbor(neighbor) {
		return false, api.ErrArg
	}
	return sidesOf(r)[side](neighbor), api.OK
}

// IsSpecial: see P2.3.
func IsSpecial(r, s api.Rule) (bool, api.Errno) {
	if e := cmp.Or(Validate(r), Validate(s)); e != api.OK {
		return false, e
	}
	if r.From != s.From {
		return false, api.OK
	}
	special, general := sidesOf(r), sidesOf(s)
	return isWithin(special[left], general[left]) && isWithin(special[right], general[right]), api.OK
}

// CanMeet: see P2.3.
func CanMeet(r, s api.Rule) (bool, api.Errno) {
	_, _, ok, e := Both(r, s)
	return ok, e
}

// Both: see P2.3.
func Both(r, s api.Rule) ([]int, []int, bool, api.Errno) {
	if e := cmp.Or(Validate(r), Validate(s)); e != api.OK {
		return nil, nil, false, e
	}
	a, b := sidesOf(r), sidesOf(s)
	onLeft := common(a[left], b[left])
	onRight := common(a[right], b[right])
	if r.From != s.From || len(onLeft) == 0 || len(onRight) == 0 {
		return nil, nil, false, api.OK
	}
	return onLeft, onRight, true, api.OK
}

// sidesOf returns what a neighbor may be by a valid rule.
func sidesOf(r api.Rule) sides {
	return sides{neighborsOf(r.Left).has, neighborsOf(r.Right).has}
}

// neighborsOf returns the neighbors that may be by a set: by an empty one, all.
func neighborsOf(set []int) neighbors {
	var list neighbors
	for _, n := range set {
		list[n-edge] = true
	}
	if len(set) == 0 {
		for i := range list {
			list[i] = true
		}
	}
	return list
}

func (list neighbors) has(neighbor int) bool {
	return list[neighbor-edge]
}

// common returns the set of the neighbors that may be by both.
func common(a, b func(int) bool) []int {
	var set []int
	for n := edge; n < api.MaxSounds; n++ {
		if a(n) && b(n) {
			set = append(set, n)
		}
	}
	return set
}

// isWithin reports whether every neighbor that may be by a may be by b.
func isWithin(a, b func(int) bool) bool {
	for n := edge; n < api.MaxSounds; n++ {
		if a(n) && !b(n) {
			return false
		}
	}
	return true
}

func isNeighbor(n int) bool {
	return n == edge || isSound(n)
}

// areNeighbors reports whether a list is a set of neighbors.
func areNeighbors(list []int) bool {
	for i, n := range list {
		if !isNeighbor(n) || i > 0 && list[i-1] >= n {
			return false
		}
	}
	return true
}
