package tag_test

import (
	"math"
	"slices"
	"sync"

	"vyakarana/api"
)

// w is a word, or another list of numbers.
func w(list ...int) []int { return list }

// item is an item with a kind, a cost and a word.
func item(kind, cost int, word ...int) api.Item { return api.Item{Word: word, Kind: kind, Cost: cost} }

// always is what it costs that one follows another, the same for all kinds.
func always(n int) [][]int {
	var rows [][]int
	for range 4 {
		rows = append(rows, w(n, n, n, n))
	}
	return rows
}

// except is always with another number for the kind b behind the kind a.
func except(n, a, b, other int) [][]int {
	rows := always(n)
	rows[a][b] = other
	return rows
}

// lexicon is a lexicon with these items.
func lexicon(follow [][]int, items ...api.Item) api.Lexicon {
	return api.Lexicon{Items: items, Follow: follow}
}

// plain is a lexicon with these words, in which nothing costs anything.
func plain(words ...[]int) api.Lexicon {
	l := api.Lexicon{Follow: always(0)}
	for _, word := range words {
		l.Items = append(l.Items, item(0, 0, word...))
	}
	return l
}

// three is the lexicon of the chapter's first example, apart that of the third one.
func three() api.Lexicon { return lexicon(always(0), item(0, 1, 0), item(0, 3, 0, 1), item(0, 1, 1)) }

func apart() api.Lexicon { return lexicon(except(0, 0, 0, -1), three().Items...) }

// eight is a lexicon of eight items with the same word.
func eight() api.Lexicon { return plain(slices.Repeat([][]int{w(0)}, 8)...) }

// full is a lexicon with as many items, and as long and dear ones, as there may be.
func full() api.Lexicon {
	l := lexicon(always(99))
	for j := range 8 {
		l.Items = append(l.Items, item(j%4, 99, slices.Repeat(w(j%6), 6)...))
	}
	return l
}

// winding is a lexicon that is no code, though the shortest lists that show it have 29 items together.
func winding() api.Lexicon {
	return plain(w(2, 2, 2, 2, 1, 3), w(1, 3, 2, 2, 2, 1), w(3, 2, 2, 2, 2, 0), w(1, 2, 2, 2, 1, 1), w(2), w(0, 2, 2, 0, 2, 1), w(0, 2, 1, 2, 2, 2), w(1, 1, 2, 2, 2, 3))
}

// dice gives numbers that seem to have no rule, the same ones in each test.
type dice uint32

func (d *dice) below(n int) int {
	*d = *d*1664525 + 1013904223
	return int(*d>>16) % n
}

// word is a word of so many sounds below n.
func (d *dice) word(length, n int) []int {
	var list []int
	for range length {
		list = append(list, d.below(n))
	}
	return list
}

// mixed is a lexicon of a few items, with costs below a limit.
func mixed(d *dice) api.Lexicon {
	var l api.Lexicon
	sounds, kinds, most, never := 1+d.below(3), 1+d.below(4), 2+98*d.below(2), d.below(4)
	for range 1 + d.below(5) {
		l.Items = append(l.Items, item(d.below(kinds), d.below(most), d.word(1+d.below(3), sounds)...))
	}
	for range 4 {
		row := d.word(4, most)
		for k := range row {
			if d.below(4) < never {
				row[k] = -1
			}
		}
		l.Follow = append(l.Follow, row)
	}
	return l
}

// someLexicons are lexicons of many kinds. Like the cases, they are made just once, since most tests go through them.
var someLexicons = sync.OnceValue(func() []api.Lexicon {
	list := []api.Lexicon{three(), apart(), eight(), full(), winding(), plain(w(0)), plain(w(0), w(0, 0), w(0, 0, 0)), plain(w(0, 1), w(1, 0), w(0), w(1))}
	d := dice(7)
	for range 400 {
		list = append(list, mixed(&d))
	}
	return list
})

// split is a split of a text with its cost.
type split struct {
	items []int
	cost  int
}

// known is a lexicon and a text with all its splits, in ascending order.
type known struct {
	l      api.Lexicon
	text   []int
	splits []split
}

// spellings are all lists of items whose words are a text, in ascending order; those found before some thousands are exceeded.
func spellings(l api.Lexicon, text []int) [][]int {
	var list [][]int
	var from func(items []int, rest []int)
	from = func(items []int, rest []int) {
		if len(rest) == 0 && len(list) < 3000 {
			list = append(list, slices.Clone(items))
		}
		for j, x := range l.Items {
			if n := len(x.Word); n <= len(rest) && slices.Equal(x.Word, rest[:n]) && len(list) < 3000 {
				from(append(items, j), rest[n:])
			}
		}
	}
	from(nil, text)
	return list
}

// priced is what items cost, one after another, by the definition; false if one must not follow another one.
func priced(l api.Lexicon, items []int) (int, bool) {
	sum, ok := 0, true
	for i := range items {
		sum += l.Items[items[i]].Cost
		if i > 0 {
			n := l.Follow[l.Items[items[i-1]].Kind][l.Items[items[i]].Kind]
			sum += n
			ok = ok && n != -1
		}
	}
	return sum, ok
}

// someCases are lexicons with texts of many kinds.
var someCases = sync.OnceValue(func() []known {
	var list []known
	d := dice(3)
	for _, l := range someLexicons() {
		texts := [][]int{nil, w(0), w(1), w(0, 1), w(0, 0, 0)}
		for range 8 {
			text := d.word(d.below(3), 2)
			for len(text) < 8 && d.below(6) > 0 {
				text = append(text, l.Items[d.below(len(l.Items))].Word...)
			}
			texts = append(texts, text[:min(len(text), 12)])
		}
		for _, text := range texts {
			k := known{l: l, text: text}
			spelled := spellings(l, text)
			for _, items := range spelled {
				if cost, ok := priced(l, items); ok {
					k.splits = append(k.splits, split{items, cost})
				}
			}
			if len(spelled) < 3000 {
				list = append(list, k)
			}
		}
	}
	return list
})

// least is the smallest cost of the splits; false if there are none.
func (k known) least() (int, bool) {
	if len(k.splits) == 0 {
		return 0, false
	}
	best := k.splits[0].cost
	for _, s := range k.splits {
		best = min(best, s.cost)
	}
	return best, true
}

// lists are all lists of at most length numbers below n, the shorter ones first.
func lists(n, length int) [][]int {
	list := [][]int{nil}
	for from := 0; from < len(list) && len(list[from]) < length; from++ {
		for x := range n {
			list = append(list, append(slices.Clone(list[from]), x))
		}
	}
	return list
}

// joined are the words of items, one after another.
func joined(l api.Lexicon, items []int) []int {
	text := []int{}
	for _, j := range items {
		text = append(text, l.Items[j].Word...)
	}
	return text
}

// turned is a list turned round.
func turned(list []int) []int {
	var back []int
	for i := range list {
		back = append(back, list[len(list)-1-i])
	}
	return back
}

// refused is an argument with an error, and the one that must be named.
type refused[T any] struct {
	value T
	want  api.Errno
}

func badLexicons() []refused[api.Lexicon] {
	bad := item(4, 100, 6, 6, 6, 6, 6, 6, 6)
	list := []refused[api.Lexicon]{
		{api.Lexicon{}, api.ErrLarge},
		{lexicon(always(0)), api.ErrLarge},
		{lexicon(always(0), slices.Repeat([]api.Item{item(0, 0, 0)}, 9)...), api.ErrLarge},
		{lexicon(always(0), make([]api.Item, 400)...), api.ErrLarge},
		// What is too large is named before what is not right.
		{lexicon(nil, slices.Repeat([]api.Item{bad}, 9)...), api.ErrLarge},
		{lexicon(always(-2)), api.ErrLarge},
	}
	for _, x := range []api.Item{
		{}, item(0, 0), bad, item(0, 0, 0, 1, 2, 3, 4, 5, 0), item(0, 0, make([]int, 400)...), item(0, 0, -1), item(0, 0, 6), item(0, 0, 0, 0, 0, 0, 0, 6),
		item(0, 0, math.MinInt), item(0, 0, 0, math.MaxInt), item(-1, 0, 0), item(4, 0, 0), item(math.MinInt, 0, 0), item(math.MaxInt, 0, 0),
		item(0, -1, 0), item(0, 100, 0), item(0, math.MinInt, 0), item(0, math.MaxInt, 0),
	} {
		list = append(list,
			refused[api.Lexicon]{lexicon(always(0), x), api.ErrArg},
			refused[api.Lexicon]{lexicon(always(0), append(full().Items[:7], x)...), api.ErrArg},
			refused[api.Lexicon]{lexicon(nil, x, item(0, 0, 0)), api.ErrArg})
	}
	for _, rows := range [][][]int{
		nil, always(0)[:3], append(always(0), w(0, 0, 0, 0)), make([][]int, 4), make([][]int, 400), {w(0), w(0), w(0), w(0)},
		{w(0, 0, 0, 0), w(0, 0, 0, 0), w(0, 0, 0), w(0, 0, 0, 0)}, {w(0, 0, 0, 0), w(0, 0, 0, 0), w(0, 0, 0, 0), w(0, 0, 0, 0, 0)},
		{nil, w(0, 0, 0, 0), w(0, 0, 0, 0), w(0, 0, 0, 0)}, always(-2), always(100),
		except(0, 0, 0, -2), except(0, 3, 3, -2), except(0, 0, 3, 100), except(0, 3, 0, 100), except(0, 1, 2, math.MinInt), except(0, 2, 1, math.MaxInt),
	} {
		list = append(list, refused[api.Lexicon]{lexicon(rows, item(0, 0, 0)), api.ErrArg}, refused[api.Lexicon]{lexicon(rows, full().Items...), api.ErrArg})
	}
	return list
}

func badTexts() []refused[[]int] {
	return []refused[[]int]{
		{make([]int, 13), api.ErrLarge}, {slices.Repeat(w(-1), 13), api.ErrLarge}, {make([]int, 400), api.ErrLarge},
		{w(-1), api.ErrArg}, {w(6), api.ErrArg}, {w(0, 0, 0, 0, 0, 0, 0, 0, 0, 0, 0, 6), api.ErrArg}, {w(math.MinInt, 0), api.ErrArg}, {w(0, math.MaxInt), api.ErrArg},
	}
}

// outside are numbers that are none of a list with so many elements.
func outside(n int) []int { return w(-1, n, n+1, math.MinInt, math.MaxInt) }

func same(a, b [][]int) bool { return slices.EqualFunc(a, b, slices.Equal) }

func sameItem(a, b api.Item) bool {
	return slices.Equal(a.Word, b.Word) && a.Kind == b.Kind && a.Cost == b.Cost
}

func sameLexicon(a, b api.Lexicon) bool {
	return slices.EqualFunc(a.Items, b.Items, sameItem) && same(a.Follow, b.Follow)
}

func isZero(l api.Lexicon) bool { return len(l.Items) == 0 && len(l.Follow) == 0 }

// copied is a lexicon in memory of its own.
func copied(l api.Lexicon) api.Lexicon {
	var c api.Lexicon
	for _, x := range l.Items {
		c.Items = append(c.Items, item(x.Kind, x.Cost, slices.Clone(x.Word)...))
	}
	for _, row := range l.Follow {
		c.Follow = append(c.Follow, slices.Clone(row))
	}
	return c
}

// roomy is a list with room behind it, into which a careless append would write.
func roomy[T any](list ...T) []T { return append(make([]T, 0, len(list)+20), list...) }

// roomyLexicon is a lexicon whose lists have room behind them.
func roomyLexicon(l api.Lexicon) api.Lexicon {
	c := api.Lexicon{Items: roomy[api.Item](), Follow: roomy[[]int]()}
	for _, x := range l.Items {
		c.Items = append(c.Items, item(x.Kind, x.Cost, roomy(x.Word...)...))
	}
	for _, row := range l.Follow {
		c.Follow = append(c.Follow, roomy(row...))
	}
	return c
}

// room is a list with all that it has room for.
func room[T any](list []T) []T { return list[:cap(list)] }

// roomOf is a lexicon with all that its lists have room for.
func roomOf(l api.Lexicon) api.Lexicon {
	var c api.Lexicon
	for _, x := range room(l.Items) {
		c.Items = append(c.Items, item(x.Kind, x.Cost, room(x.Word)...))
	}
	for _, row := range room(l.Follow) {
		c.Follow = append(c.Follow, room(row))
	}
	return c
}

// listsOf are the lists of numbers of a lexicon.
func listsOf(l api.Lexicon) [][]int {
	list := slices.Clone(l.Follow)
	for _, x := range l.Items {
		list = append(list, x.Word)
	}
	return list
}

// spoilAll writes into all lists, and behind them, and reports whether one shares its memory with another one.
func spoilAll(all ...[]int) bool {
	shared := false
	for i, list := range all {
		var before [][]int
		for _, other := range all {
			before = append(before, slices.Clone(other))
		}
		for k := range room(list) {
			room(list)[k] = 99
		}
		for j := range all {
			shared = shared || j != i && !slices.Equal(all[j], before[j])
		}
	}
	return shared
}
