package machine_test

import (
	"cmp"
	"math"
	"slices"
	"sync"

	"vyakarana/api"
)

// arc is an arc between states that reads and writes.
func arc(from, to, in, out int) api.Arc { return api.Arc{From: from, To: to, In: in, Out: out} }

// made is a machine with these arcs.
func made(states int, ends []int, arcs ...api.Arc) api.Machine {
	return api.Machine{States: states, Arcs: arcs, Ends: ends}
}

// one is a machine with one state, in Ends.
func one(arcs ...api.Arc) api.Machine { return made(1, []int{0}, arcs...) }

// exchanging is the machine of the chapter's first example, splitting that of the second one.
func exchanging() api.Machine { return one(arc(0, 0, 0, 1), arc(0, 0, 1, 0)) }

func splitting() api.Machine { return one(arc(0, 0, 0, 0), arc(0, 0, 0, 1)) }

// all is the machine with one state by which each word is an image of each one as long.
func all() api.Machine {
	m := one()
	for a := range api.MaxSounds {
		for b := range api.MaxSounds {
			m.Arcs = append(m.Arcs, arc(0, 0, a, b))
		}
	}
	return m
}

// chain is a machine with so many arcs in a row, the last one to the only end.
func chain(arcs int) api.Machine {
	m := made(arcs+1, []int{arcs})
	for s := range arcs {
		m.Arcs = append(m.Arcs, arc(s, s+1, s%3, s%2))
	}
	return m
}

// woven is a machine of seven states with arcs from each to each one, which all read and write 0.
func woven(ends ...int) api.Machine {
	m := made(7, ends)
	for a := range 7 {
		for b := range 7 {
			m.Arcs = append(m.Arcs, arc(a, b, 0, 0))
		}
	}
	return m
}

// threeHundred is a machine by which 0 0 0 0 has just 300 images: 6 * 5 * 5 * 2.
func threeHundred() api.Machine {
	m := made(8, []int{4})
	for s, n := range []int{6, 5, 5, 2} {
		for out := range n {
			m.Arcs = append(m.Arcs, arc(s, s+1, 0, out))
		}
	}
	return m
}

// oneMore is one by which it has just 301.
func oneMore() api.Machine {
	m := threeHundred()
	m.Arcs = append(m.Arcs, arc(0, 5, 0, 0), arc(5, 6, 0, 0), arc(6, 7, 0, 0), arc(7, 4, 0, 5))
	return m
}

// wheels is a machine whose first word with two images is long: it goes round in three states or in
// five ones, and both come to an end at once only after a while.
func wheels() api.Machine {
	m := made(9, []int{3, 8})
	for i := range 3 {
		m.Arcs = append(m.Arcs, arc(1+i, 1+(i+1)%3, 0, 0))
	}
	for i := range 5 {
		m.Arcs = append(m.Arcs, arc(4+i, 4+(i+1)%5, 0, 0))
	}
	m.Arcs = append(m.Arcs, arc(0, 1, 0, 0), arc(0, 4, 0, 1))
	return m
}

// dice gives numbers that seem to have no rule, the same ones in each test.
type dice uint32

func (d *dice) below(n int) int {
	*d = *d*1664525 + 1013904223
	return int(*d>>16) % n
}

// mixed is a machine of a few states and arcs, with sounds from 0 to 2 at most.
func mixed(d *dice) api.Machine {
	m := api.Machine{States: 1 + d.below(4)}
	sounds := 1 + d.below(3)
	for range d.below(3 + 3*m.States) {
		a := arc(d.below(m.States), d.below(m.States), d.below(sounds), d.below(sounds))
		if !slices.Contains(m.Arcs, a) {
			m.Arcs = append(m.Arcs, a)
		}
	}
	for s := range m.States {
		if d.below(2) == 0 {
			m.Ends = append(m.Ends, s)
		}
	}
	return m
}

// line is a run with what it reads and writes.
type line struct{ run, u, v []int }

// deepest is how many arcs the runs have that are made for a known machine.
const deepest = 4

// known is a machine with all its runs of at most deepest arcs.
type known struct {
	m     api.Machine
	lines []line
}

// knownOf makes all lists of arcs that lead on from one to the next, and keeps those that lead to an end.
func knownOf(m api.Machine) known {
	k := known{m: m}
	level := []line{{}}
	for range deepest + 1 {
		var longer []line
		for _, l := range level {
			if slices.Contains(m.Ends, last(m, l.run)) {
				k.lines = append(k.lines, l)
			}
			for i, a := range m.Arcs {
				if a.From == last(m, l.run) {
					longer = append(longer, line{plus(l.run, i), plus(l.u, a.In), plus(l.v, a.Out)})
				}
			}
		}
		level = longer
	}
	return k
}

// last is the state to which a list of arcs leads.
func last(m api.Machine, run []int) int {
	if len(run) == 0 {
		return 0
	}
	return m.Arcs[run[len(run)-1]].To
}

func plus(list []int, x int) []int { return append(slices.Clone(list), x) }

// images are all images of a word of at most deepest sounds, by the definition.
func (k known) images(u []int) [][]int {
	return k.words(func(l line) bool { return slices.Equal(l.u, u) }, func(l line) []int { return l.v })
}

// sources are all its sources.
func (k known) sources(v []int) [][]int {
	return k.words(func(l line) bool { return slices.Equal(l.v, v) }, func(l line) []int { return l.u })
}

func (k known) words(is func(line) bool, side func(line) []int) [][]int {
	var list [][]int
	for _, l := range k.lines {
		if is(l) {
			list = append(list, side(l))
		}
	}
	return sorted(list)
}

// sorted are words in ascending order, each once.
func sorted(list [][]int) [][]int {
	slices.SortFunc(list, slices.Compare)
	return slices.CompactFunc(list, slices.Equal)
}

// someMachines are machines of many kinds. They are made just once, since most tests go through them.
var someMachines = sync.OnceValue(func() []known {
	machines := []api.Machine{
		made(1, nil), one(), made(9, nil), made(9, []int{0, 1, 2, 3, 4, 5, 6, 7, 8}), made(2, []int{1}), exchanging(), splitting(),
		chain(1), chain(2), chain(4), chain(8), wheels(), threeHundred(), oneMore(),
		one(arc(0, 0, 5, 5)), made(1, nil, arc(0, 0, 0, 0)), made(3, []int{2}, arc(0, 1, 0, 0), arc(2, 2, 0, 0)),
		made(3, []int{0}, arc(1, 0, 1, 0), arc(0, 2, 1, 1), arc(0, 1, 1, 1)), made(2, []int{1}, arc(0, 1, 0, 0), arc(0, 0, 0, 1), arc(0, 0, 0, 2)),
	}
	d := dice(7)
	for range 300 {
		machines = append(machines, mixed(&d))
	}
	var list []known
	for _, m := range machines {
		list = append(list, knownOf(m))
	}
	return list
})

// words are all words of at most length sounds below n, the shorter ones first.
func words(n, length int) [][]int {
	list := [][]int{nil}
	for from := 0; from < len(list); from++ {
		if len(list[from]) == length {
			break
		}
		for s := range n {
			list = append(list, plus(list[from], s))
		}
	}
	return list
}

// refused is an argument with an error, and the one that must be named.
type refused[T any] struct {
	value T
	want  api.Errno
}

func badMachines() []refused[api.Machine] {
	good, low := arc(0, 0, 0, 0), arc(-1, 0, 0, 0)
	return []refused[api.Machine]{
		{api.Machine{}, api.ErrArg},
		{made(0, nil), api.ErrArg},
		{made(-1, nil), api.ErrArg},
		{made(10, nil), api.ErrArg},
		{made(math.MinInt, []int{0}), api.ErrArg},
		{made(math.MaxInt, []int{0}), api.ErrArg},
		{made(10, []int{3, 2}, slices.Repeat([]api.Arc{low}, 61)...), api.ErrArg},
		{made(0, nil, slices.Repeat([]api.Arc{good}, 61)...), api.ErrArg},
		{made(1, nil, slices.Repeat([]api.Arc{good}, 61)...), api.ErrLarge},
		{made(1, []int{5}, slices.Repeat([]api.Arc{low}, 61)...), api.ErrLarge},
		{made(9, nil, make([]api.Arc, 400)...), api.ErrLarge},
		{made(1, nil, low), api.ErrArg},
		{made(1, nil, arc(1, 0, 0, 0)), api.ErrArg},
		{made(9, nil, good, arc(9, 0, 0, 0)), api.ErrArg},
		{made(1, nil, arc(0, -1, 0, 0)), api.ErrArg},
		{made(2, nil, arc(0, 2, 0, 0)), api.ErrArg},
		{made(1, nil, arc(0, 0, -1, 0)), api.ErrArg},
		{made(1, nil, arc(0, 0, 6, 0)), api.ErrArg},
		{made(1, nil, arc(0, 0, 0, -1)), api.ErrArg},
		{made(1, nil, arc(0, 0, 0, 6)), api.ErrArg},
		{made(1, nil, arc(math.MinInt, 0, 0, 0)), api.ErrArg},
		{made(1, nil, good, arc(0, 0, 0, math.MaxInt)), api.ErrArg},
		{made(1, []int{-1}), api.ErrArg},
		{made(1, []int{1}), api.ErrArg},
		{made(9, []int{0, 9}), api.ErrArg},
		{made(9, []int{0, 0}), api.ErrArg},
		{made(9, []int{2, 1}), api.ErrArg},
		{made(9, []int{0, 1, 2, 3, 4, 5, 6, 7, 8, 8}), api.ErrArg},
		{made(9, make([]int, 400)), api.ErrArg},
		{made(9, []int{math.MinInt, 0}), api.ErrArg},
		// What is not right is named before what is there twice.
		{made(1, nil, good, good, low), api.ErrArg},
		{made(1, []int{0, 0}, good, good), api.ErrArg},
		{made(1, nil, good, good), api.ErrTwice},
		{made(2, []int{0, 1}, good, arc(1, 0, 5, 5), arc(0, 1, 2, 3), arc(1, 0, 5, 5)), api.ErrTwice},
		{made(1, nil, slices.Repeat([]api.Arc{good}, 60)...), api.ErrTwice},
	}
}

func badWords() []refused[[]int] {
	return []refused[[]int]{
		{make([]int, 9), api.ErrLarge}, {[]int{6, 6, 6, 6, 6, 6, 6, 6, 6}, api.ErrLarge}, {make([]int, 400), api.ErrLarge},
		{[]int{-1}, api.ErrArg}, {[]int{0, 6}, api.ErrArg}, {[]int{0, 0, 0, 0, 0, 0, 0, -1}, api.ErrArg}, {[]int{math.MinInt}, api.ErrArg}, {[]int{math.MaxInt}, api.ErrArg},
	}
}

func same(a, b [][]int) bool { return slices.EqualFunc(a, b, slices.Equal) }

func sameMachine(a, b api.Machine) bool {
	return a.States == b.States && slices.Equal(a.Arcs, b.Arcs) && slices.Equal(a.Ends, b.Ends)
}

func isZero(m api.Machine) bool { return sameMachine(m, api.Machine{}) }

// inOrder are arcs in ascending order, each once.
func inOrder(arcs []api.Arc) []api.Arc {
	list := slices.Clone(arcs)
	slices.SortFunc(list, func(a, b api.Arc) int {
		return slices.Compare([]int{a.From, a.To, a.In, a.Out}, []int{b.From, b.To, b.In, b.Out})
	})
	return slices.Compact(list)
}

// byLength orders lines by how many arcs they have, by what they read, and by what they write.
func byLength(a, b line) int {
	return cmp.Or(cmp.Compare(len(a.run), len(b.run)), slices.Compare(a.u, b.u), slices.Compare(a.v, b.v))
}

// roomy is a list with room behind it, into which a careless append would write.
func roomy[T any](list ...T) []T { return append(make([]T, 0, len(list)+70), list...) }

// roomyMachine is a machine whose lists have room behind them.
func roomyMachine(m api.Machine) api.Machine {
	return api.Machine{States: m.States, Arcs: roomy(m.Arcs...), Ends: roomy(m.Ends...)}
}

// room is a machine with all that its lists have room for.
func room(m api.Machine) api.Machine {
	return api.Machine{States: m.States, Arcs: m.Arcs[:cap(m.Arcs)], Ends: m.Ends[:cap(m.Ends)]}
}

func copied(m api.Machine) api.Machine {
	return api.Machine{States: m.States, Arcs: slices.Clone(m.Arcs), Ends: slices.Clone(m.Ends)}
}

// spoil writes into a list, and behind it as far as its memory goes.
func spoil(list []int) {
	list = list[:cap(list)]
	for i := range list {
		list[i] = 99
	}
}

// spoilAll writes into all lists, and reports whether one shares its memory with another one.
func spoilAll(lists ...[]int) bool {
	shared := false
	for i, list := range lists {
		var before [][]int
		for _, other := range lists {
			before = append(before, slices.Clone(other))
		}
		spoil(list)
		for j := range lists {
			shared = shared || j != i && !slices.Equal(lists[j], before[j])
		}
	}
	return shared
}

// spoilMachine writes into the lists of a machine, and behind them.
func spoilMachine(m api.Machine) {
	spoil(m.Ends)
	arcs := m.Arcs[:cap(m.Arcs)]
	for i := range arcs {
		arcs[i] = arc(99, 99, 99, 99)
	}
}
