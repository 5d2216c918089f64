package cell

import (
	"iter"
	"slices"

	"vyakarana/api"
)

// formless stands in a list of forms for a cell that has none.
const formless = -1

// Cells: see P6.2.
func Cells(p api.Paradigm) ([][]int, api.Errno) {
	if e := Validate(p); e != api.OK {
		return nil, e
	}
	return slices.Collect(cellsOf(p.Sizes)), api.OK
}

// Fill: see P6.2.
func Fill(p api.Paradigm) ([]int, api.Errno) {
	if e := Validate(p); e != api.OK {
		return nil, e
	}
	return fill(p), api.OK
}

// Clashes: see P6.2.
func Clashes(p api.Paradigm) ([][]int, api.Errno) {
	if e := Validate(p); e != api.OK {
		return nil, e
	}
	return cellsWith(p, func(cell []int) bool {
		return formOf(p, cell) == formless && len(matches(p, cell)) > 0
	}), api.OK
}

// Empty: see P6.2.
func Empty(p api.Paradigm) ([][]int, api.Errno) {
	if e := Validate(p); e != api.OK {
		return nil, e
	}
	return cellsWith(p, func(cell []int) bool { return len(matches(p, cell)) == 0 }), api.OK
}

// IsFull: see P6.2.
func IsFull(p api.Paradigm) (bool, api.Errno) {
	if e := Validate(p); e != api.OK {
		return false, e
	}
	return !slices.Contains(fill(p), formless), api.OK
}

// Homes: see P6.2.
func Homes(p api.Paradigm, form int) ([][]int, api.Errno) {
	if e := Validate(p); e != api.OK {
		return nil, e
	}
	if !isForm(form) {
		return nil, api.ErrArg
	}
	return cellsWith(p, func(cell []int) bool { return formOf(p, cell) == form }), api.OK
}

// cellsOf goes through all cells in ascending order, each in memory of its own.
func cellsOf(sizes []int) iter.Seq[[]int] {
	return func(yield func([]int) bool) {
		cell := make([]int, len(sizes))
		for more := true; more; more = advance(cell, sizes) {
			if !yield(slices.Clone(cell)) {
				return
			}
		}
	}
}

// advance makes a cell the next one, and reports whether there is one.
func advance(cell, sizes []int) bool {
	for t := len(sizes) - 1; t >= 0; t-- {
		if cell[t] < sizes[t]-1 {
			cell[t]++
			return true
		}
		cell[t] = 0
	}
	return false
}

// cellsWith returns the cells of which something is true, in ascending order.
func cellsWith(p api.Paradigm, is func(cell []int) bool) [][]int {
	var list [][]int
	for c := range cellsOf(p.Sizes) {
		if is(c) {
			list = append(list, c)
		}
	}
	return list
}

// formOf returns the form of a cell, or formless.
func formOf(p api.Paradigm, cell []int) int {
	if i, ok := decides(p, cell); ok {
		return p.Entries[i].Form
	}
	return formless
}

// fill returns the forms of all cells, in the order of cellsOf.
func fill(p api.Paradigm) []int {
	var forms []int
	for c := range cellsOf(p.Sizes) {
		forms = append(forms, formOf(p, c))
	}
	return forms
}
