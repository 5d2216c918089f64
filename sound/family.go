package sound

import (
	"iter"
	"slices"

	"vyakarana/api"
)

// ValidateFamily: see P1.1.
func ValidateFamily(n int, family [][]int) api.Errno {
	if n < 1 || n > api.MaxSounds {
		return api.ErrArg
	}
	if len(family) > api.MaxSets {
		return api.ErrLarge
	}
	for _, set := range family {
		if len(set) == 0 || !isSet(set, n) {
			return api.ErrArg
		}
	}
	return api.OK
}

// Fits: see P1.3.
func Fits(n int, family [][]int, order []int) (bool, api.Errno) {
	if e := validateOrder(n, family, order); e != api.OK {
		return false, e
	}
	return fits(family, order), api.OK
}

// Order: see P1.3.
func Order(n int, family [][]int) ([]int, bool, api.Errno) {
	if e := ValidateFamily(n, family); e != api.OK {
		return nil, false, e
	}
	for order := range orders(n) {
		if fits(family, order) {
			return slices.Clone(order), true, api.OK
		}
	}
	return nil, false, api.OK
}

// Marks: see P1.3.
func Marks(n int, family [][]int, order []int) (int, api.Errno) {
	if e := validateOrder(n, family, order); e != api.OK {
		return 0, e
	}
	if !fits(family, order) {
		return 0, api.ErrRule
	}
	return len(marks(family, order)), api.OK
}

// Fewest: see P1.3.
func Fewest(n int, family [][]int) (int, bool, api.Errno) {
	if e := ValidateFamily(n, family); e != api.OK {
		return 0, false, e
	}
	_, ends, ok := fewest(n, family)
	return len(ends), ok, api.OK
}

// CheckTable: see P1.4.
func CheckTable(n int, family [][]int, t [][]int) api.Errno {
	if e := ValidateFamily(n, family); e != api.OK {
		return e
	}
	if e := Validate(t); e != api.OK {
		return e
	}
	if !isOrder(slices.Concat(t...), n) {
		return api.ErrFit
	}
	list := classes(t)
	for _, set := range family {
		if _, ok := slices.BinarySearchFunc(list, set, slices.Compare); !ok {
			return api.ErrProof
		}
	}
	return api.OK
}

// Table: see P1.4.
func Table(n int, family [][]int) ([][]int, bool, api.Errno) {
	if e := ValidateFamily(n, family); e != api.OK {
		return nil, false, e
	}
	order, ends, ok := fewest(n, family)
	return cut(order, ends), ok, api.OK
}

func validateOrder(n int, family [][]int, order []int) api.Errno {
	if e := ValidateFamily(n, family); e != api.OK {
		return e
	}
	if !isOrder(order, n) {
		return api.ErrArg
	}
	return api.OK
}

// fits reports whether the sounds of each set of the family stand together in the order.
func fits(family [][]int, order []int) bool {
	for _, set := range family {
		first, end := span(set, order)
		if end-first != len(set) {
			return false
		}
	}
	return true
}

// span returns the first place of a sound of the set in the order, and the place behind the last one.
func span(set, order []int) (first, end int) {
	first = len(order)
	for i, sound := range order {
		if slices.Contains(set, sound) {
			first = min(first, i)
			end = i + 1
		}
	}
	return first, end
}

// marks returns the set of the places behind the last ones of the sets of the family, and of the order:
// a name stands for a set to the end of a row, so that just there rows must end.
func marks(family [][]int, order []int) []int {
	ends := []int{len(order)}
	for _, set := range family {
		_, end := span(set, order)
		ends = append(ends, end)
	}
	slices.Sort(ends)
	return slices.Compact(ends)
}

// fewest returns, of the orders that the family fits, the first one with the fewest marks, and these.
func fewest(n int, family [][]int) (best, ends []int, ok bool) {
	for order := range orders(n) {
		if !fits(family, order) {
			continue
		}
		list := marks(family, order)
		if !ok || len(list) < len(ends) {
			best, ends, ok = slices.Clone(order), list, true
		}
	}
	return best, ends, ok
}

// orders goes through all orders of n sounds, in ascending order, in one slice that each step changes.
func orders(n int) iter.Seq[[]int] {
	return func(yield func([]int) bool) {
		order := make([]int, n)
		for i := range order {
			order[i] = i
		}
		for yield(order) && advance(order) {
		}
	}
}

// advance makes the next order of one, in ascending order, and reports whether there is a next one.
func advance(order []int) bool {
	i := len(order) - 2
	for i >= 0 && order[i] > order[i+1] {
		i--
	}
	if i < 0 {
		return false
	}
	j := len(order) - 1
	for order[j] < order[i] {
		j--
	}
	order[i], order[j] = order[j], order[i]
	// What follows is descending, so turned round it is the smallest rest.
	slices.Reverse(order[i+1:])
	return true
}
