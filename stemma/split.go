package stemma

import (
	"cmp"
	"slices"

	"vyakarana/api"
)

// Different: see P7.2.
func Different(t [][]int, place int) (int, api.Errno) {
	if e := validatePlaces(t, place); e != api.OK {
		return 0, e
	}
	return different(t, place), api.OK
}

// Side: see P7.2.
func Side(t [][]int, place int) ([]int, bool, api.Errno) {
	if e := validatePlaces(t, place); e != api.OK || !splits(t, place) {
		return nil, false, e
	}
	return side(t, place), true, api.OK
}

// Conflict: see P7.2.
func Conflict(t [][]int, p, q int) (bool, api.Errno) {
	if e := validatePlaces(t, p, q); e != api.OK {
		return false, e
	}
	return conflict(t, p, q), api.OK
}

// Conflicts: see P7.2.
func Conflicts(t [][]int) ([][2]int, api.Errno) {
	if e := Validate(t); e != api.OK {
		return nil, e
	}
	return conflicts(t), api.OK
}

// CanTree: see P7.2.
func CanTree(t [][]int) (bool, api.Errno) {
	if e := Validate(t); e != api.OK {
		return false, e
	}
	return len(conflicts(t)) == 0, api.OK
}

// Greatest: see P7.2.
func Greatest(t [][]int) ([]int, api.Errno) {
	if e := Validate(t); e != api.OK {
		return nil, e
	}
	var best []int
	for bits := range 1 << len(t[0]) {
		set := members(bits)
		if standTogether(t, set) && cmp.Or(cmp.Compare(len(best), len(set)), slices.Compare(set, best)) < 0 {
			best = set
		}
	}
	return best, api.OK
}

func different(t [][]int, place int) int {
	seen := map[int]bool{}
	for _, readings := range t {
		seen[readings[place]] = true
	}
	return len(seen)
}

func splits(t [][]int, place int) bool {
	return different(t, place) == 2
}

// side returns the copies that have another reading at a place than the copy 0.
func side(t [][]int, place int) []int {
	var list []int
	for c, readings := range t {
		if readings[place] != t[0][place] {
			list = append(list, c)
		}
	}
	return list
}

func conflict(t [][]int, p, q int) bool {
	if !splits(t, p) || !splits(t, q) {
		return false
	}
	pairs := map[[2]int]bool{}
	for _, readings := range t {
		pairs[[2]int{readings[p], readings[q]}] = true
	}
	return len(pairs) == 4
}

// conflicts returns all pairs of places that conflict, in ascending order.
func conflicts(t [][]int) [][2]int {
	var list [][2]int
	for p := range t[0] {
		for q := p + 1; q < len(t[0]); q++ {
			if conflict(t, p, q) {
				list = append(list, [2]int{p, q})
			}
		}
	}
	return list
}

// members returns the set of the numbers of the bits that are 1.
func members(bits int) []int {
	var set []int
	for n := 0; bits>>n > 0; n++ {
		if bits>>n&1 == 1 {
			set = append(set, n)
		}
	}
	return set
}

// standTogether reports whether all places of a set split and no two of them conflict.
func standTogether(t [][]int, set []int) bool {
	for i, p := range set {
		if !splits(t, p) || slices.ContainsFunc(set[:i], func(q int) bool { return conflict(t, p, q) }) {
			return false
		}
	}
	return true
}
