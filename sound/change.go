package sound

import (
	"slices"

	"vyakarana/api"
)

// Split: see P1.5.
func Split(t [][]int, row, at int) ([][]int, api.Errno) {
	if e := Validate(t); e != api.OK {
		return nil, e
	}
	if row < 0 || row >= len(t) {
		return nil, api.ErrNone
	}
	if at < 1 || at >= len(t[row]) {
		return nil, api.ErrArg
	}
	if len(t) >= api.MaxRows {
		return nil, api.ErrLarge
	}
	ends := rowEnds(t)
	between := ends[row] - len(t[row]) + at
	return cut(slices.Concat(t...), slices.Insert(ends, row, between)), api.OK
}

// Join: see P1.5.
func Join(t [][]int, row int) ([][]int, api.Errno) {
	if e := Validate(t); e != api.OK {
		return nil, e
	}
	if row < 0 || row >= len(t)-1 {
		return nil, api.ErrNone
	}
	return cut(slices.Concat(t...), slices.Delete(rowEnds(t), row, row+1)), api.OK
}

// Rename: see P1.5.
func Rename(t [][]int, to []int) ([][]int, api.Errno) {
	if e := Validate(t); e != api.OK {
		return nil, e
	}
	if !isOrder(to, api.MaxSounds) {
		return nil, api.ErrArg
	}
	sounds := slices.Concat(t...)
	for i, s := range sounds {
		sounds[i] = to[s]
	}
	return cut(sounds, rowEnds(t)), api.OK
}

// rowEnds returns the places behind the last ones of the rows, in the order of the table.
func rowEnds(t [][]int) []int {
	var ends []int
	end := 0
	for _, row := range t {
		end += len(row)
		ends = append(ends, end)
	}
	return ends
}

// cut makes rows of sounds, each up to the next one of the ends. A row has no room behind it, so that
// what is appended to it does not get into the next one.
func cut(sounds, ends []int) [][]int {
	var rows [][]int
	from := 0
	for _, end := range ends {
		rows = append(rows, sounds[from:end:end])
		from = end
	}
	return rows
}
