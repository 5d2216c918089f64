package order_test

import (
	"math"
	"slices"
	"sync"

	"vyakarana/api"
	"vyakarana/feed"
	"vyakarana/rule"
)

// r is a rule without neighbors.
func r(from int, to ...int) api.Rule { return api.Rule{From: from, To: to} }

// between is a rule with neighbors.
func between(left []int, from int, right []int, to ...int) api.Rule {
	return api.Rule{From: from, To: to, Left: left, Right: right}
}

func system(rules ...api.Rule) []api.Rule { return rules }

func at(rule, place int) api.Step { return api.Step{Rule: rule, Place: place} }

func choice(rule, place, ground int) api.Choice {
	return api.Choice{Rule: rule, Place: place, Ground: ground}
}

// someRules are rules of which some are special of others, and some feed or block others.
func someRules() []api.Rule {
	return system(
		r(0, 1), r(0, 2), r(1, 2), r(1), r(0, 1, 1), r(2, 3), r(-1, 0), r(-1, 2, 1), r(1, 0),
		between([]int{-1}, 0, nil, 2), between([]int{1}, 0, nil, 1), between([]int{-1, 1}, 0, []int{-1, 0}, 3), between(nil, 1, []int{0}, 0),
		between([]int{-1}, 1, []int{-1, 2}), between([]int{0, 1}, 0, []int{0}, 2, 2), between([]int{0}, -1, []int{0}, 2), between([]int{-1}, -1, nil, 1),
		between(nil, 2, []int{-1, 1}, 0, 3), between([]int{2}, 1, nil, 3), between([]int{-1, 0, 1, 2, 3, 4, 5}, 0, nil, 3),
	)
}

// someSystems are some with two, three and six of these rules.
func someSystems() [][]api.Rule {
	rules := someRules()
	list := [][]api.Rule{nil, system(rules[0])}
	for i, a := range rules {
		for j, b := range rules {
			if i != j && (2*i+j)%3 == 0 {
				list = append(list, system(a, b))
			}
			if i != j && (3*i+j)%7 == 0 {
				list = append(list, system(a, rules[(i+5)%len(rules)], b))
			}
		}
		var six []api.Rule
		for k := range api.MaxRules {
			six = append(six, rules[(i+3*k)%len(rules)])
		}
		list = append(list, six)
	}
	return list
}

// someWords are words of the sounds that these rules know, and of others.
func someWords() [][]int {
	return [][]int{nil, {0}, {1}, {0, 0}, {2, 1}, {1, 0, 2}, {0, 1, 0, 0}, {5, 0, 3}, {0, 0, 0}, {2, 2, 1, 1, 0, 5, 5}, {0, 1, 1, 0, 0, 1, 0, 0}}
}

// someGrounds are all lists of different grounds.
func someGrounds() [][]int {
	list := [][]int{nil}
	for i := 0; i < len(list); i++ {
		for g := 1; g <= 4; g++ {
			if !slices.Contains(list[i], g) {
				list = append(list, append(slices.Clone(list[i]), g))
			}
		}
	}
	return list
}

// fourGrounds are those of these lists that have all grounds.
func fourGrounds() [][]int {
	return slices.DeleteFunc(someGrounds(), func(g []int) bool { return len(g) < 4 })
}

// round goes on for ever from each word with 0 or 1.
func round() []api.Rule { return system(r(0, 1), r(1, 0)) }

// tree makes two of a sound, and of each of these two again, until all are left out. By the ground 4 the
// sounds that are left out first come first, so that no word becomes too long. 5 takes one step, 4 three,
// 3 seven, 2 fifteen, 1 thirty-one and 0 sixty-three.
func tree() []api.Rule {
	return system(r(0, 1, 1), r(1, 2, 2), r(2, 3, 3), r(3, 4, 4), r(4, 5, 5), r(5))
}

// sixty and sixtyOne take so many steps by the tree.
func sixty() []int    { return []int{1, 2, 3, 4, 4, 5} }
func sixtyOne() []int { return []int{1, 2, 3, 4, 4, 5, 5} }

// halfway goes on for ever from the word 0 if the ground 1 comes before the ground 4, and otherwise ends in 2.
func halfway() []api.Rule { return system(between([]int{-1}, 0, nil, 1), r(1, 0), r(0, 2)) }

// lastsOf says whether a lasts against b, by the definition.
func lastsOf(s []api.Rule, w []int, a, b api.Step) bool {
	v, _ := rule.Apply(s[b.Rule], w, b.Place)
	if b.Place < a.Place {
		a.Place += len(v) - len(w)
	}
	steps, _ := feed.Steps(s, v)
	return slices.Contains(steps, a)
}

func isSpecial(a, b api.Rule) bool {
	is, _ := rule.IsSpecial(a, b)
	return is
}

// decidesFor says whether a ground decides for a, by the definition.
func decidesFor(s []api.Rule, w []int, ground int, a, b api.Step) bool {
	switch ground {
	case 1:
		return a.Place == b.Place && isSpecial(s[a.Rule], s[b.Rule]) && !isSpecial(s[b.Rule], s[a.Rule])
	case 2:
		return lastsOf(s, w, a, b) && !lastsOf(s, w, b, a)
	case 3:
		return a.Place < b.Place
	}
	return a.Rule > b.Rule
}

// beatsOf is the ground by which a beats b, below 0 if b beats a, by the definition.
func beatsOf(s []api.Rule, w []int, grounds []int, a, b api.Step) int {
	for _, g := range grounds {
		if decidesFor(s, w, g, a, b) {
			return g
		}
		if decidesFor(s, w, g, b, a) {
			return -g
		}
	}
	return 0
}

// beatsAll says whether a candidate beats all others, with the ground by which it beats the first one.
func beatsAll(s []api.Rule, w []int, grounds []int, steps []api.Step, a api.Step) (int, bool) {
	first := 0
	for _, b := range steps {
		if a == b {
			continue
		}
		g := beatsOf(s, w, grounds, a, b)
		if g <= 0 {
			return 0, false
		}
		if first == 0 {
			first = g
		}
	}
	return first, true
}

// winnerOf is the winner of the candidates of a word, and whether it beats all others.
func winnerOf(s []api.Rule, w []int, grounds []int, steps []api.Step) (api.Choice, bool) {
	for _, a := range steps {
		if g, ok := beatsAll(s, w, grounds, steps, a); ok {
			return choice(a.Rule, a.Place, g), true
		}
	}
	end := steps[len(steps)-1]
	return choice(end.Rule, end.Place, 0), false
}

// derived is a derivation by the definition; with large, it has more than MaxSteps steps, and the
// choices are the first ones.
type derived struct {
	s          []api.Rule
	w, grounds []int
	choices    []api.Choice
	form       []int
	large      bool
}

func derive(s []api.Rule, w []int, grounds []int) derived {
	d := derived{s: s, w: w, grounds: grounds, form: w}
	for {
		steps, _ := feed.Steps(s, d.form)
		if len(steps) == 0 {
			return d
		}
		if len(d.choices) == api.MaxSteps {
			d.form, d.large = nil, true
			return d
		}
		c, _ := winnerOf(s, d.form, grounds, steps)
		d.form, _ = rule.Apply(s[c.Rule], d.form, c.Place)
		d.choices = append(d.choices, c)
	}
}

// task is a system with a word.
type task struct {
	s []api.Rule
	w []int
}

// someTasks are some systems with some words each, and those at the limits.
func someTasks() []task {
	words := someWords()
	list := []task{{round(), []int{0}}, {round(), []int{3}}, {tree(), sixty()}, {tree(), sixtyOne()}, {halfway(), []int{0}}, {halfway(), []int{0, 0}}}
	for i, s := range someSystems() {
		list = append(list, task{s, words[i%len(words)]}, task{s, words[(i+3)%len(words)]}, task{s, words[(i/3+6)%len(words)]})
	}
	return list
}

// someDerived are derivations by some grounds each. They are made just once, since most tests go through them.
var someDerived = sync.OnceValue(func() []derived {
	grounds := someGrounds()
	var list []derived
	for i, x := range someTasks() {
		for k := range 2 {
			list = append(list, derive(x.s, x.w, grounds[(7*i+13*k)%len(grounds)]))
		}
		list = append(list, derive(x.s, x.w, []int{1, 2, 3, 4}))
	}
	for _, g := range [][]int{nil, {4}, {4, 3}, {1, 4}, {4, 1}} {
		list = append(list, derive(tree(), sixty(), g), derive(tree(), sixtyOne(), g), derive(halfway(), []int{0}, g))
	}
	return list
})

// refused is an argument with an error, and the one that must be named.
type refused[T any] struct {
	value T
	want  api.Errno
}

func badSystems() []refused[[]api.Rule] {
	good, large, fails := r(0, 1), r(0, 1, 1, 1), r(0, 0)
	return []refused[[]api.Rule]{
		{make([]api.Rule, 7), api.ErrLarge},
		{system(good, good, good, good, good, good, good), api.ErrLarge},
		{system(r(-2, 1)), api.ErrArg},
		{system(good, good, good, good, good, between([]int{1, 0}, 0, nil, 1)), api.ErrArg},
		{system(large), api.ErrLarge},
		{system(good, r(-1)), api.ErrRule},
		// One by one: the first rule with an error decides.
		{system(good, fails, r(math.MinInt), large), api.ErrRule},
		{system(r(0, 6), large, fails), api.ErrArg},
	}
}

func badWords() []refused[[]int] {
	return []refused[[]int]{
		{make([]int, 9), api.ErrLarge}, {[]int{6, 6, 6, 6, 6, 6, 6, 6, 6}, api.ErrLarge}, {[]int{-1}, api.ErrArg}, {[]int{0, 6}, api.ErrArg}, {[]int{math.MinInt}, api.ErrArg},
	}
}

func badGrounds() []refused[[]int] {
	return []refused[[]int]{
		{[]int{1, 2, 3, 4, 1}, api.ErrLarge}, {[]int{1, 1, 1, 1, 1}, api.ErrLarge}, {[]int{0, 0, 9, 9, 9}, api.ErrLarge}, {make([]int, 400), api.ErrLarge},
		{[]int{0}, api.ErrArg}, {[]int{5}, api.ErrArg}, {[]int{1, 2, 3, 5}, api.ErrArg}, {[]int{-1}, api.ErrArg}, {[]int{math.MinInt}, api.ErrArg}, {[]int{4, math.MaxInt}, api.ErrArg},
		{[]int{1, 1, 0}, api.ErrArg}, {[]int{5, 5}, api.ErrArg},
		{[]int{1, 1}, api.ErrTwice}, {[]int{4, 4}, api.ErrTwice}, {[]int{2, 3, 4, 2}, api.ErrTwice}, {[]int{3, 3, 3, 3}, api.ErrTwice},
	}
}

func same(a, b [][]int) bool { return slices.EqualFunc(a, b, slices.Equal) }

func sameRule(a, b api.Rule) bool {
	return a.From == b.From && slices.Equal(a.To, b.To) && slices.Equal(a.Left, b.Left) && slices.Equal(a.Right, b.Right)
}

func sameSystem(a, b []api.Rule) bool { return slices.EqualFunc(a, b, sameRule) }

func copied(s []api.Rule) []api.Rule {
	var c []api.Rule
	for _, x := range s {
		c = append(c, api.Rule{From: x.From, To: slices.Clone(x.To), Left: slices.Clone(x.Left), Right: slices.Clone(x.Right)})
	}
	return c
}

// roomy is a list with room behind it, into which a careless append would write.
func roomy(list ...int) []int { return append(make([]int, 0, len(list)+20), list...) }

// spoil writes into a list, and behind it as far as its memory goes.
func spoil(list []int) {
	list = list[:cap(list)]
	for i := range list {
		list[i] = 99
	}
}

// spoilAll writes into all lists, and reports whether one shares its memory with another one.
func spoilAll(lists [][]int) bool {
	shared := false
	for i, list := range lists {
		var before [][]int
		for _, other := range lists {
			before = append(before, slices.Clone(other))
		}
		spoil(list)
		for j := range lists {
			shared = shared || j != i && !slices.Equal(lists[j], before[j])
		}
	}
	return shared
}
