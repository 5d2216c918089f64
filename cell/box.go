package cell

import (
	"slices"

	"vyakarana/api"
)

// Hull: see P6.3.
func Hull(p api.Paradigm, cells [][]int) ([]int, api.Errno) {
	if e := validateCells(p, cells...); e != api.OK {
		return nil, e
	}
	if len(cells) == 0 {
		return nil, api.ErrNone
	}
	return hull(cells), api.OK
}

// IsBox: see P6.3.
func IsBox(p api.Paradigm, cells [][]int) (bool, api.Errno) {
	if e := validateCells(p, cells...); e != api.OK || len(cells) == 0 {
		return false, e
	}
	// Each spec that holds for all of them holds for the cells of their hull, too: only the hull may hold for no others.
	spec := hull(cells)
	for c := range cellsOf(p.Sizes) {
		if within(c, spec, free) && !slices.ContainsFunc(cells, func(given []int) bool { return slices.Equal(given, c) }) {
			return false, api.OK
		}
	}
	return true, api.OK
}

// Meet: see P6.3.
func Meet(p api.Paradigm, i, j int) ([]int, bool, api.Errno) {
	if e := validateEntries(p, i, j); e != api.OK {
		return nil, false, e
	}
	spec, ok := meet(p.Entries[i].Spec, p.Entries[j].Spec)
	return spec, ok, api.OK
}

// hull returns the spec with the fewest free traits that holds for all cells, of which there are some.
func hull(cells [][]int) []int {
	spec := slices.Clone(cells[0])
	for _, c := range cells {
		for t, v := range c {
			if v != spec[t] {
				spec[t] = free
			}
		}
	}
	return spec
}

// meet returns the spec for the cells for which two specs hold, if there are some.
func meet(a, b []int) ([]int, bool) {
	spec := slices.Clone(a)
	for t, v := range b {
		if spec[t] == free {
			spec[t] = v
		}
	}
	if !within(spec, b, free) {
		return nil, false
	}
	return spec, true
}
