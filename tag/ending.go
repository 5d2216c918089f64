package tag

import (
	"slices"

	"vyakarana/api"
)

// never is more than any split costs. It is the greatest number of a proof, so that what the endings of a
// text cost is a proof for it.
const never = api.MaxProof

// ending is how many splits of a beginning of a text end with an item, and what the cheapest one costs, or never.
// With at most MaxText items in each, they are no more than an int can hold.
type ending struct {
	count, least int
}

// add adds the splits of another ending, each of which costs so much more now.
func (x *ending) add(y ending, more int) {
	x.count += y.count
	x.least = min(x.least, y.least+more)
}

// endings returns the endings of the beginnings of a text, from the empty one on: one for each item.
func endings(l api.Lexicon, text []int) [][]ending {
	table := make([][]ending, len(text)+1)
	for place := range table {
		table[place] = make([]ending, len(l.Items))
		for j, item := range l.Items {
			table[place][j] = ending{least: never}
			if isEnd(item.Word, text[:place]) {
				table[place][j] = behind(l, table, place-len(item.Word), j)
			}
		}
	}
	return table
}

// behind returns the ending by the item j, whose word begins at a place at which the endings are known.
func behind(l api.Lexicon, table [][]ending, from, j int) ending {
	if from == 0 {
		return ending{1, l.Items[j].Cost}
	}
	x := ending{least: never}
	for k, y := range table[from] {
		if n := follow(l, k, j); n >= 0 {
			x.add(y, n+l.Items[j].Cost)
		}
	}
	return x
}

// whole returns how many splits a text with these endings has, and what the cheapest one costs.
func whole(table [][]ending) ending {
	if len(table) == 1 {
		return ending{1, 0}
	}
	x := ending{least: never}
	for _, y := range table[len(table)-1] {
		x.add(y, 0)
	}
	return x
}

func isEnd(word, list []int) bool {
	from := len(list) - len(word)
	return from >= 0 && slices.Equal(word, list[from:])
}
