package tag

import (
	"slices"

	"vyakarana/api"
)

// Text: see P8.5.
func Text(l api.Lexicon, split []int) ([]int, api.Errno) {
	if e := validateItems(l, split...); e != api.OK {
		return nil, e
	}
	text := words(l, split)
	if len(text) > api.MaxText {
		return nil, api.ErrLarge
	}
	return text, api.OK
}

// Back: see P8.5.
func Back(l api.Lexicon) (api.Lexicon, api.Errno) {
	if e := Validate(l); e != api.OK {
		return api.Lexicon{}, e
	}
	b := copied(l)
	for _, item := range b.Items {
		slices.Reverse(item.Word)
	}
	for k, row := range l.Follow {
		for i, n := range row {
			b.Follow[i][k] = n
		}
	}
	return b, api.OK
}

// Dearer: see P8.5.
func Dearer(l api.Lexicon, item, by int) (api.Lexicon, api.Errno) {
	if e := validateItems(l, item); e != api.OK {
		return api.Lexicon{}, e
	}
	// Compared in this way, no number is too large for the sum.
	old := l.Items[item].Cost
	if !isBetween(by, -old, api.MaxCost-old) {
		return api.Lexicon{}, api.ErrArg
	}
	d := copied(l)
	d.Items[item].Cost += by
	return d, api.OK
}

// Without: see P8.5.
func Without(l api.Lexicon, item int) (api.Lexicon, api.Errno) {
	if e := validateItems(l, item); e != api.OK {
		return api.Lexicon{}, e
	}
	if len(l.Items) == 1 {
		return api.Lexicon{}, api.ErrArg
	}
	w := copied(l)
	w.Items = slices.Delete(w.Items, item, item+1)
	return w, api.OK
}

// Free: see P8.5.
func Free(l api.Lexicon) (api.Lexicon, api.Errno) {
	if e := Validate(l); e != api.OK {
		return api.Lexicon{}, e
	}
	f := copied(l)
	for _, row := range f.Follow {
		clear(row)
	}
	return f, api.OK
}

// validateItems returns the errors of a lexicon, and then those of numbers of items.
func validateItems(l api.Lexicon, items ...int) api.Errno {
	if e := Validate(l); e != api.OK {
		return e
	}
	if !areItems(l, items) {
		return api.ErrNone
	}
	return api.OK
}

// words returns the words of items, one after another.
func words(l api.Lexicon, items []int) []int {
	var text []int
	for _, j := range items {
		text = append(text, l.Items[j].Word...)
	}
	return text
}

// copied returns a lexicon in memory of its own.
func copied(l api.Lexicon) api.Lexicon {
	c := api.Lexicon{Items: slices.Clone(l.Items)}
	for j := range c.Items {
		c.Items[j].Word = slices.Clone(c.Items[j].Word)
	}
	for _, row := range l.Follow {
		c.Follow = append(c.Follow, slices.Clone(row))
	}
	return c
}
