package tag

import (
	"slices"

	"vyakarana/api"
)

// Greedy: see P8.4.
func Greedy(l api.Lexicon, text []int) ([]int, int, api.Errno) {
	if e := validate(l, text); e != api.OK {
		return nil, 0, e
	}
	var items []int
	place := 0
	for {
		j, ok := longest(l, text[place:])
		if !ok {
			return items, place, api.OK
		}
		items = append(items, j)
		place += len(l.Items[j].Word)
	}
}

// CheckTwo: see P8.4.
func CheckTwo(l api.Lexicon, a, b []int) api.Errno {
	if e := Validate(l); e != api.OK {
		return e
	}
	if len(a) > api.MaxPairs || len(b) > api.MaxPairs {
		return api.ErrLarge
	}
	if !areItems(l, a) || !areItems(l, b) {
		return api.ErrNone
	}
	if slices.Equal(a, b) || !slices.Equal(words(l, a), words(l, b)) {
		return api.ErrProof
	}
	return api.OK
}

// Two: see P8.4.
func Two(l api.Lexicon) ([]int, []int, bool, api.Errno) {
	if e := Validate(l); e != api.OK {
		return nil, nil, false, e
	}
	p, ok := two(l)
	return p.short, p.long, ok, api.OK
}

// IsCode: see P8.4.
func IsCode(l api.Lexicon) (bool, api.Errno) {
	_, _, ok, e := Two(l)
	return e == api.OK && !ok, e
}

// longest returns the first one of the items with the longest word with which a text begins; false if there is none.
func longest(l api.Lexicon, text []int) (int, bool) {
	best, most := 0, 0
	for j, item := range l.Items {
		if isBeginning(item.Word, text) && len(item.Word) > most {
			best, most = j, len(item.Word)
		}
	}
	return best, most > 0
}

// pair is two lists of items that begin with different ones: the words of the short one are a beginning of
// those of the long one, of which the rest is left over.
type pair struct {
	short, long, left []int
}

// with returns the pair with the item j behind the short list, which then may be the long one; false if
// its word is not what goes on there.
func (p pair) with(j int, word []int) (pair, bool) {
	longer := append(slices.Clone(p.short), j)
	if isBeginning(word, p.left) {
		return pair{longer, p.long, p.left[len(word):]}, true
	}
	if isBeginning(p.left, word) {
		return pair{p.long, longer, word[len(p.left):]}, true
	}
	return pair{}, false
}

// two returns a pair with nothing left over, if there is one. What is left over is an end of a word, and
// each one is gone on with just once, so that each list has fewer than MaxPairs items.
func two(l api.Lexicon) (pair, bool) {
	list := firstPairs(l)
	n := 0
next:
	if n == len(list) {
		return pair{}, false
	}
	p := list[n]
	n++
	if len(p.left) == 0 {
		return p, true
	}
	for j, item := range l.Items {
		if q, ok := p.with(j, item.Word); ok && !isLeft(list, q.left) {
			list = append(list, q)
		}
	}
	goto next
}

// firstPairs returns the pairs of two lists with one item each.
func firstPairs(l api.Lexicon) []pair {
	var list []pair
	for j, item := range l.Items {
		for i, other := range l.Items[:j] {
			if p, ok := (pair{nil, []int{j}, item.Word}).with(i, other.Word); ok {
				list = append(list, p)
			}
		}
	}
	return list
}

// isLeft reports whether a rest is left over in one of the pairs.
func isLeft(list []pair, left []int) bool {
	return slices.ContainsFunc(list, func(p pair) bool { return slices.Equal(p.left, left) })
}

func isBeginning(word, list []int) bool {
	return len(word) <= len(list) && slices.Equal(word, list[:len(word)])
}
