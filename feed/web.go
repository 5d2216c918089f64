package feed

import (
	"slices"

	"vyakarana/api"
)

// arc is a step with the number of the word to which it leads.
type arc struct {
	step api.Step
	to   int
}

// web is what a word reaches: the words, with this word as number 0, the numbers of the words by their
// keys, and the steps of each word.
type web struct {
	words   [][]int
	numbers map[string]int
	arcs    [][]arc
}

// webOf returns the web of a word, with all errors of a function that needs it.
func webOf(s []api.Rule, w []int) (web, api.Errno) {
	if e := validate(s, w); e != api.OK {
		return web{}, e
	}
	return explore(s, w)
}

// explore returns the web of a valid word by a valid system. It gives up as soon as the words are too
// many: without the limit they might be millions.
func explore(s []api.Rule, w []int) (web, api.Errno) {
	x := web{numbers: map[string]int{}}
	var visit func(w []int) (int, bool)
	visit = func(w []int) (int, bool) {
		if i, ok := x.numbers[key(w)]; ok {
			return i, true
		}
		i := len(x.words)
		if i == api.MaxReach {
			return 0, false
		}
		x.numbers[key(w)] = i
		x.words = append(x.words, w)
		x.arcs = append(x.arcs, nil)
		for _, m := range moves(s, w) {
			to, ok := visit(m.word)
			if !ok {
				return 0, false
			}
			x.arcs[i] = append(x.arcs[i], arc{m.step, to})
		}
		return i, true
	}
	// A clone, since Reach and Ends give out the words of the web.
	if _, ok := visit(slices.Clone(w)); !ok {
		return web{}, api.ErrLarge
	}
	return x, api.OK
}

// key returns a text that stands for a word in maps.
func key(w []int) string {
	text := make([]byte, len(w))
	for i, s := range w {
		text[i] = byte(s)
	}
	return string(text)
}

// ends returns the words without steps, in ascending order.
func (x web) ends() [][]int {
	var list [][]int
	for i, w := range x.words {
		if len(x.arcs[i]) == 0 {
			list = append(list, w)
		}
	}
	slices.SortFunc(list, slices.Compare)
	return list
}

// longest returns the greatest number of steps one after another, and false if they go on for ever.
func (x web) longest() (int, bool) {
	most := make([]int, len(x.words))
	entered := make([]bool, len(x.words))
	left := make([]bool, len(x.words))
	var measure func(i int) bool
	measure = func(i int) bool {
		if entered[i] {
			// A word that is entered again before it was left reaches itself.
			return left[i]
		}
		entered[i] = true
		for _, a := range x.arcs[i] {
			if !measure(a.to) {
				return false
			}
			most[i] = max(most[i], most[a.to]+1)
		}
		left[i] = true
		return true
	}
	if !measure(0) {
		return 0, false
	}
	return most[0], true
}

// shortest returns a path as short as possible from the word 0 to another one. Words are gone through
// in the order of their distances, so that the first path to a word is a shortest one.
func (x web) shortest(to int) []api.Step {
	paths := make([][]api.Step, len(x.words))
	found := make([]bool, len(x.words))
	found[0] = true
	queue := []int{0}
	for len(queue) > 0 {
		i := queue[0]
		queue = queue[1:]
		for _, a := range x.arcs[i] {
			if !found[a.to] {
				found[a.to] = true
				paths[a.to] = append(slices.Clone(paths[i]), a.step)
				queue = append(queue, a.to)
			}
		}
	}
	return paths[to]
}

// isCalm reports whether, for each word, any two words to which its steps lead join.
func (x web) isCalm() bool {
	below := make([]group, len(x.words))
	for i := range below {
		below[i] = x.below(i)
	}
	for _, arcs := range x.arcs {
		for k, a := range arcs {
			for _, b := range arcs[:k] {
				if !below[a.to].meets(below[b.to]) {
					return false
				}
			}
		}
	}
	return true
}

// below returns the words that a word reaches.
func (x web) below(i int) group {
	var found group
	var visit func(i int)
	visit = func(i int) {
		if found.has(i) {
			return
		}
		found.add(i)
		for _, a := range x.arcs[i] {
			visit(a.to)
		}
	}
	visit(i)
	return found
}

// blockSize is how many words a block of a group has.
const blockSize = 64

// group is a set of numbers of words, a bit for each: pairs of groups are compared in great numbers.
type group [(api.MaxReach + blockSize - 1) / blockSize]uint64

func (g *group) add(i int) {
	g[i/blockSize] |= 1 << (i % blockSize)
}

func (g group) has(i int) bool {
	return g[i/blockSize]>>(i%blockSize)&1 == 1
}

func (g group) meets(h group) bool {
	for k := range g {
		if g[k]&h[k] != 0 {
			return true
		}
	}
	return false
}
