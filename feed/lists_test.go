package feed_test

import (
	"math"
	"slices"
	"sync"

	"vyakarana/api"
	"vyakarana/rule"
)

// r is a rule without neighbors.
func r(from int, to ...int) api.Rule { return api.Rule{From: from, To: to} }

// between is a rule with neighbors.
func between(left []int, from int, right []int, to ...int) api.Rule {
	return api.Rule{From: from, To: to, Left: left, Right: right}
}

func system(rules ...api.Rule) []api.Rule { return rules }

// someRules are rules that feed and block each other, with sounds from 0 to 2.
func someRules() []api.Rule {
	return system(
		r(0, 1), r(0, 2), r(1, 0), r(1, 2), r(2), r(0), r(0, 1, 1), r(1, 2, 0), r(0, 0, 0), r(2, 0, 1), r(-1, 0), r(-1, 2, 1),
		between([]int{-1}, 0, nil, 1), between([]int{1}, 0, nil, 1), between(nil, 1, []int{0}, 0), between([]int{-1}, 1, []int{-1, 2}),
		between([]int{0, 1}, 0, []int{0}, 2), between([]int{0}, -1, []int{0}, 2), between([]int{-1, 2}, -1, []int{-1}, 1), between(nil, 2, []int{-1, 1}, 0, 2),
	)
}

// someSystems are all with one or two of these rules, and some with more.
func someSystems() [][]api.Rule {
	rules := someRules()
	list := [][]api.Rule{nil}
	for i, a := range rules {
		list = append(list, system(a))
		for j, b := range rules {
			list = append(list, system(a, b))
			if i != j && (3*i+j)%7 == 0 {
				list = append(list, system(a, rules[(i+5)%len(rules)], b))
			}
		}
		var six []api.Rule
		for k := range api.MaxRules {
			six = append(six, rules[(i+3*k)%len(rules)])
		}
		list = append(list, six)
	}
	return list
}

// someWords are words of the sounds that these rules know, and of others.
func someWords() [][]int {
	return [][]int{nil, {0}, {1}, {0, 0}, {2, 1}, {1, 0, 2}, {0, 1, 0, 0}, {5, 0, 3}, {0, 0, 0, 0, 0, 0, 0, 0}, {2, 2, 1, 1, 0, 5, 5}}
}

// growing is a system by which each word reaches all longer ones that hold it, and too many of them.
func growing() []api.Rule { return system(r(-1, 0), r(-1, 1), r(-1, 2)) }

// threeHundred is a system and a word that reaches just 300 words: 5 * 5 * 3 * 2 * 2.
func threeHundred() ([]api.Rule, []int) {
	return system(r(0, 1), r(1, 2), r(2, 3), r(3, 4)), []int{0, 0, 2, 3, 3}
}

// oneMore is a system and a word that reaches just 301 words.
func oneMore() ([]api.Rule, []int) {
	return system(r(5, 2), between([]int{-1, 0, 4, 5}, 2, nil, 4), between(nil, 5, []int{4}), between([]int{-1}, 4, nil)), []int{2, 2, 5, 5, 2, 4, 5}
}

// winding is a system and a word that reaches some words by a great number of steps only.
func winding() ([]api.Rule, []int) {
	return system(
		r(3, 2), between(nil, 2, []int{-1, 0, 1, 2, 5}, 0), between(nil, 2, []int{-1, 1, 2, 4}, 4),
		between([]int{-1, 1, 4}, 5, []int{-1, 4}, 0, 5), between(nil, 5, []int{-1, 0, 3}, 3), between(nil, 0, []int{-1, 0}, 5),
	), []int{3}
}

// key stands for a word in maps.
func key(w []int) string {
	var b []byte
	for _, s := range w {
		b = append(b, byte(s))
	}
	return string(b)
}

// stepsOf are the steps of a word by the definition: whatever might be one is tried.
func stepsOf(s []api.Rule, w []int) []api.Step {
	var steps []api.Step
	for k := range s {
		for place := range len(w) + 1 {
			if _, e := rule.Apply(s[k], w, place); e == api.OK {
				steps = append(steps, api.Step{Rule: k, Place: place})
			}
		}
	}
	return steps
}

func nextOf(s []api.Rule, w []int) [][]int {
	words := map[string][]int{}
	for _, step := range stepsOf(s, w) {
		v, _ := rule.Apply(s[step.Rule], w, step.Place)
		words[key(v)] = v
	}
	return ascending(words)
}

// ascending are the words of a map, in ascending order.
func ascending(words map[string][]int) [][]int {
	var list [][]int
	for _, w := range words {
		list = append(list, w)
	}
	slices.SortFunc(list, slices.Compare)
	return list
}

// followed is what a word reaches: all words that it reaches by each number of steps, as far as that says
// something new, and all of them together.
type followed struct {
	s      []api.Rule
	w      []int
	levels [][][]int
	words  [][]int
	large  bool
}

// follow goes on step by step: with n words, more than n - 1 steps one after another come back to a word.
func follow(s []api.Rule, w []int) followed {
	f := followed{s: s, w: w}
	known := map[string][]int{key(w): w}
	next := map[string][][]int{}
	for level := [][]int{w}; len(level) > 0 && len(f.levels) <= len(known); {
		f.levels = append(f.levels, level)
		words := map[string][]int{}
		for _, v := range level {
			k := key(v)
			if _, ok := next[k]; !ok {
				next[k] = nextOf(s, v)
			}
			for _, u := range next[k] {
				words[key(u)] = u
				known[key(u)] = u
			}
		}
		if len(known) > api.MaxReach {
			f.large = true
			return f
		}
		level = ascending(words)
	}
	f.words = ascending(known)
	return f
}

// forever says whether there are more steps one after another than there are words to come to.
func (f followed) forever() bool { return len(f.levels) > len(f.words) }

func (f followed) ends() [][]int {
	var list [][]int
	for _, v := range f.words {
		if len(stepsOf(f.s, v)) == 0 {
			list = append(list, v)
		}
	}
	return list
}

// distance is the fewest steps to a word, -1 if it is not reached.
func (f followed) distance(v []int) int {
	return slices.IndexFunc(f.levels, func(level [][]int) bool { return has(level, v) })
}

func has(words [][]int, v []int) bool {
	return slices.ContainsFunc(words, func(w []int) bool { return slices.Equal(w, v) })
}

// meet says whether a word is among both lists.
func meet(a, b [][]int) bool {
	return slices.ContainsFunc(a, func(w []int) bool { return has(b, w) })
}

// allFollowed are some systems with some words each, and those at the limits. They are made just once,
// since most tests go through them.
var allFollowed = sync.OnceValue(func() []followed {
	var list []followed
	for i, s := range someSystems() {
		words := someWords()
		list = append(list, follow(s, words[i%len(words)]), follow(s, words[(i+3)%len(words)]), follow(s, words[(i/3+5)%len(words)]))
	}
	list = append(list, follow(growing(), nil), follow(growing(), make([]int, 5)), follow(growing(), make([]int, 8)))
	list = append(list, follow(threeHundred()), follow(oneMore()), follow(winding()))
	return list
})

// refused is an argument with an error, and the one that must be named.
type refused[T any] struct {
	value T
	want  api.Errno
}

func badSystems() []refused[[]api.Rule] {
	good, large, fails := r(0, 1), r(0, 1, 1, 1), r(0, 0)
	return []refused[[]api.Rule]{
		{make([]api.Rule, 7), api.ErrLarge},
		{system(good, good, good, good, good, good, good), api.ErrLarge},
		{system(r(9), good, good, good, good, good, fails), api.ErrLarge},
		{system(r(-2, 1)), api.ErrArg},
		{system(good, r(6, 1)), api.ErrArg},
		{system(good, good, good, good, good, between([]int{1, 0}, 0, nil, 1)), api.ErrArg},
		{system(r(math.MinInt, 1), good), api.ErrArg},
		{system(large), api.ErrLarge},
		{system(fails), api.ErrRule},
		{system(good, r(-1)), api.ErrRule},
		// One by one: the first rule with an error decides.
		{system(good, fails, r(6), large), api.ErrRule},
		{system(r(0, 6), large, fails), api.ErrArg},
		{system(large, fails, r(6)), api.ErrLarge},
	}
}

func badWords() []refused[[]int] {
	return []refused[[]int]{
		{make([]int, 9), api.ErrLarge}, {[]int{6, 6, 6, 6, 6, 6, 6, 6, 6}, api.ErrLarge}, {make([]int, 400), api.ErrLarge},
		{[]int{-1}, api.ErrArg}, {[]int{0, 6}, api.ErrArg}, {[]int{math.MinInt}, api.ErrArg}, {[]int{0, 256}, api.ErrArg}, {[]int{0, 0, 0, 0, 0, 0, 0, math.MaxInt}, api.ErrArg},
	}
}

func badWeights() [][]int {
	return [][]int{
		nil, {1}, {1, 1, 1, 1, 1}, {1, 1, 1, 1, 1, 1, 1}, {-1, 1, 1, 1, 1, 1}, {1, 1, 1, 1, 1, -1}, {1001, 1, 1, 1, 1, 1}, {1, 1, 1, 1, 1, 1001},
		{1, math.MinInt, 1, 1, 1, 1}, {1, 1, math.MaxInt, 1, 1, 1}, {1, 1, 1, 1, 1, 1, 1001},
	}
}

func same(a, b [][]int) bool { return slices.EqualFunc(a, b, slices.Equal) }

func sameRule(a, b api.Rule) bool {
	return a.From == b.From && slices.Equal(a.To, b.To) && slices.Equal(a.Left, b.Left) && slices.Equal(a.Right, b.Right)
}

func sameSystem(a, b []api.Rule) bool { return slices.EqualFunc(a, b, sameRule) }

func copied(s []api.Rule) []api.Rule {
	var c []api.Rule
	for _, x := range s {
		c = append(c, api.Rule{From: x.From, To: slices.Clone(x.To), Left: slices.Clone(x.Left), Right: slices.Clone(x.Right)})
	}
	return c
}

// roomy is a list with room behind it, into which a careless append would write.
func roomy(list ...int) []int { return append(make([]int, 0, len(list)+20), list...) }

// spoil writes into a list, and behind it as far as its memory goes.
func spoil(list []int) {
	list = list[:cap(list)]
	for i := range list {
		list[i] = 99
	}
}

// spoilAll writes into all lists, and reports whether one shares its memory with another one.
func spoilAll(lists [][]int) bool {
	shared := false
	for i, list := range lists {
		var before [][]int
		for _, other := range lists {
			before = append(before, slices.Clone(other))
		}
		spoil(list)
		for j := range lists {
			shared = shared || j != i && !slices.Equal(lists[j], before[j])
		}
	}
	return shared
}
