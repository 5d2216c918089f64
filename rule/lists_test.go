package rule_test

import (
	"math"
	"slices"

	"vyakarana/api"
)

// words are all words of at most length sounds below n, the shorter ones first.
func words(n, length int) [][]int {
	all := [][]int{nil}
	for from := 0; from < len(all); from++ {
		if len(all[from]) == length {
			break
		}
		for s := range n {
			all = append(all, append(slices.Clone(all[from]), s))
		}
	}
	return all
}

// longWords are words that are as long as a word may be, or a little shorter.
func longWords() [][]int {
	return [][]int{
		{0, 0, 0, 0, 0, 0, 0, 0}, {0, 0, 0, 0, 0, 0, 0}, {1, 1, 1, 1, 1, 1, 1, 1}, {1, 1, 1, 1, 1, 1},
		{0, 1, 0, 1, 0, 1, 0, 1}, {1, 0, 0, 0, 0, 0, 1}, {0, 1, 1, 0, 1, 1, 0}, {5, 4, 3, 2, 1, 0, 5, 4}, {0, 0, 0, 0, 0}, {5, 0, 1, 5, 0},
	}
}

// rules are all valid rules with parts of these lists.
func rules(from []int, to, sets [][]int) []api.Rule {
	var all []api.Rule
	for _, f := range from {
		for _, t := range to {
			if f == -1 && len(t) == 0 || len(t) == 1 && t[0] == f {
				continue
			}
			for _, l := range sets {
				for _, r := range sets {
					all = append(all, api.Rule{From: f, To: t, Left: l, Right: r})
				}
			}
		}
	}
	return all
}

// allNeighbors is the set of all neighbors.
func allNeighbors() []int { return []int{-1, 0, 1, 2, 3, 4, 5} }

// manyRules are rules for words of the sounds 0 and 1, most of all.
func manyRules() []api.Rule {
	return rules([]int{-1, 0, 1, 5}, [][]int{nil, {0}, {1}, {0, 0}, {0, 1}, {1, 0}, {2, 5}}, [][]int{nil, {-1}, {0}, {1}, {-1, 1}, {0, 5}, allNeighbors()})
}

// someRules are fewer, for pairs of rules.
func someRules() []api.Rule {
	return rules([]int{-1, 0, 5}, [][]int{nil, {1}, {1, 0}}, [][]int{nil, {-1}, {0}, {-1, 0, 5}, allNeighbors()})
}

// badRule is a rule with an error, the one that Validate must name.
type badRule struct {
	r    api.Rule
	want api.Errno
}

func badRules() []badRule {
	return []badRule{
		{api.Rule{From: -2, To: []int{0}}, api.ErrArg},
		{api.Rule{From: 6, To: []int{0}}, api.ErrArg},
		{api.Rule{From: math.MinInt}, api.ErrArg},
		{api.Rule{From: math.MaxInt, To: []int{0, 0, 0}}, api.ErrArg},
		{api.Rule{From: 0, To: []int{1, 1, 1}}, api.ErrLarge},
		{api.Rule{From: -1, To: []int{7, 7, 7}, Left: []int{9}}, api.ErrLarge},
		{api.Rule{From: 0, To: make([]int, 300)}, api.ErrLarge},
		{api.Rule{From: 0, To: []int{-1}}, api.ErrArg},
		{api.Rule{From: -1, To: []int{-1}}, api.ErrArg},
		{api.Rule{From: 0, To: []int{1, 6}}, api.ErrArg},
		{api.Rule{From: 0, To: []int{math.MaxInt}}, api.ErrArg},
		{api.Rule{From: 0, To: []int{1}, Left: []int{-2}}, api.ErrArg},
		{api.Rule{From: 0, To: []int{1}, Left: []int{6}}, api.ErrArg},
		{api.Rule{From: 0, To: []int{1}, Left: []int{1, 0}}, api.ErrArg},
		{api.Rule{From: 0, To: []int{1}, Left: []int{1, 1}}, api.ErrArg},
		{api.Rule{From: 0, To: []int{1}, Left: []int{0, -1}}, api.ErrArg},
		{api.Rule{From: 0, To: []int{1}, Right: []int{math.MinInt}}, api.ErrArg},
		{api.Rule{From: 0, To: []int{1}, Right: []int{0, 6}}, api.ErrArg},
		{api.Rule{From: 0, To: []int{1}, Right: []int{-1, -1}}, api.ErrArg},
		{api.Rule{From: 0, To: []int{1}, Right: []int{3, 2}}, api.ErrArg},
		{api.Rule{From: 0, To: []int{1}, Right: append(allNeighbors(), 6)}, api.ErrArg},
		{api.Rule{From: -1, Left: []int{6}}, api.ErrArg},
		{api.Rule{From: 0, To: []int{0}, Right: []int{1, 0}}, api.ErrArg},
		{api.Rule{From: -1}, api.ErrRule},
		{api.Rule{From: -1, To: []int{}, Left: []int{0}}, api.ErrRule},
		{api.Rule{From: 0, To: []int{0}}, api.ErrRule},
		{api.Rule{From: 5, To: []int{5}, Left: []int{-1}, Right: []int{1, 2}}, api.ErrRule},
	}
}

// badWord is a word with an error, the one that ValidateWord must name.
type badWord struct {
	w    []int
	want api.Errno
}

func badWords() []badWord {
	return []badWord{
		{make([]int, 9), api.ErrLarge},
		{make([]int, 300), api.ErrLarge},
		{[]int{6, 6, 6, 6, 6, 6, 6, 6, 6}, api.ErrLarge},
		{[]int{-1}, api.ErrArg},
		{[]int{0, 6}, api.ErrArg},
		{[]int{0, 0, 0, 0, 0, 0, 0, -1}, api.ErrArg},
		{[]int{math.MinInt}, api.ErrArg},
		{[]int{math.MaxInt}, api.ErrArg},
	}
}

// badNames are lists that do not have each sound once.
func badNames() [][]int {
	return [][]int{
		nil, {0, 1, 2, 3, 4}, {0, 1, 2, 3, 4, 4}, {0, 1, 2, 3, 4, 6}, {-1, 0, 1, 2, 3, 4}, {-1, 0, 1, 2, 3, 4, 5},
		{0, 1, 2, 3, 4, 5, 0}, {0, 1, 2, 3, 4, 5, 6}, {math.MinInt, 1, 2, 3, 4, 5}, {0, 1, 2, 3, 4, math.MaxInt}, make([]int, 6),
	}
}

func sameRule(a, b api.Rule) bool {
	return a.From == b.From && slices.Equal(a.To, b.To) && slices.Equal(a.Left, b.Left) && slices.Equal(a.Right, b.Right)
}

func copiedRule(r api.Rule) api.Rule {
	return api.Rule{From: r.From, To: slices.Clone(r.To), Left: slices.Clone(r.Left), Right: slices.Clone(r.Right)}
}

func isZero(r api.Rule) bool { return sameRule(r, api.Rule{}) }

// spoil writes into a list, and behind it as far as its memory goes.
func spoil(list []int) {
	list = list[:cap(list)]
	for i := range list {
		list[i] = 99
	}
}
