package tag

import (
	"slices"

	"vyakarana/api"
)

// CheckSplit: see P8.2.
func CheckSplit(l api.Lexicon, text, split []int) (int, api.Errno) {
	if e := validate(l, text); e != api.OK {
		return 0, e
	}
	if len(split) > api.MaxText {
		return 0, api.ErrLarge
	}
	if !areItems(l, split) {
		return 0, api.ErrNone
	}
	if !slices.Equal(words(l, split), text) {
		return 0, api.ErrProof
	}
	sum, ok := cost(l, split)
	if !ok {
		return 0, api.ErrRule
	}
	return sum, api.OK
}

// Least: see P8.2.
func Least(l api.Lexicon, text []int) (int, bool, api.Errno) {
	if e := validate(l, text); e != api.OK {
		return 0, false, e
	}
	x := whole(endings(l, text))
	if x.count == 0 {
		return 0, false, api.OK
	}
	return x.least, true, api.OK
}

// Best: see P8.2.
func Best(l api.Lexicon, text []int) ([]int, bool, api.Errno) {
	least, ok, e := Least(l, text)
	if !ok {
		return nil, false, e
	}
	return splits(l, text, least+1, 1)[0], true, api.OK
}

// Count: see P8.2.
func Count(l api.Lexicon, text []int) (int, api.Errno) {
	if e := validate(l, text); e != api.OK {
		return 0, e
	}
	return whole(endings(l, text)).count, api.OK
}

// All: see P8.2.
func All(l api.Lexicon, text []int) ([][]int, api.Errno) {
	n, e := Count(l, text)
	if e != api.OK {
		return nil, e
	}
	if n > api.MaxSplits {
		return nil, api.ErrLarge
	}
	return splits(l, text, never, n), api.OK
}

// follow returns what it costs that the item j follows the item k, or -1 if it must not.
func follow(l api.Lexicon, k, j int) int {
	return l.Follow[l.Items[k].Kind][l.Items[j].Kind]
}

// cost returns what items cost one after another; false if one follows one that it must not follow.
func cost(l api.Lexicon, items []int) (int, bool) {
	sum := 0
	for i, j := range items {
		sum += l.Items[j].Cost
		if i == 0 {
			continue
		}
		n := follow(l, items[i-1], j)
		if n < 0 {
			return 0, false
		}
		sum += n
	}
	return sum, true
}

// splits returns splits of a text that cost less than a limit: so many of them, or all if there are no
// more. They are found from the end of the text on, where the endings tell which items are the end of such
// a split: without this, there might be millions of tries.
func splits(l api.Lexicon, text []int, limit, most int) [][]int {
	table := endings(l, text)
	var list [][]int
	var found []int
	next := 0
search:
	for len(list) < most {
		place := len(text) - len(words(l, found))
		if place == 0 {
			list = append(list, slices.Clone(found))
		}
		for j := next; j < len(l.Items); j++ {
			if table[place][j].least+costBehind(l, j, found) < limit {
				found, next = slices.Insert(found, 0, j), 0
				continue search
			}
		}
		if len(found) == 0 {
			break
		}
		found, next = found[1:], found[0]+1
	}
	slices.SortFunc(list, slices.Compare)
	return list
}

// costBehind returns what items cost behind the item j, or never if the first one must not follow it.
func costBehind(l api.Lexicon, j int, items []int) int {
	sum, ok := cost(l, append([]int{j}, items...))
	if !ok {
		return never
	}
	return sum - l.Items[j].Cost
}
