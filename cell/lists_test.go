package cell_test

import (
	"fmt"
	"math"
	"math/bits"
	"slices"
	"sync"

	"vyakarana/api"
)

// entry is an entry with a form and a spec.
func entry(form int, spec ...int) api.Entry { return api.Entry{Spec: spec, Form: form} }

// sized is a list of sizes.
func sized(list ...int) []int { return list }

// made is a paradigm with these entries.
func made(sizes []int, entries ...api.Entry) api.Paradigm {
	return api.Paradigm{Sizes: sizes, Entries: entries}
}

// clashing is the paradigm of the chapter's first example, full that of the second one.
func clashing() api.Paradigm {
	return made(sized(2, 2), entry(0, -1, -1), entry(1, 1, -1), entry(2, -1, 1))
}

func full() api.Paradigm {
	return made(sized(2, 2), entry(0, -1, -1), entry(1, 1, -1), entry(2, -1, 1), entry(3, 1, 1))
}

// region is a set of cells: bit k is the k-th one in ascending order.
type region uint32

func (r region) holds(k int) bool { return r>>k&1 == 1 }

// known is a paradigm with its cells, its specs, and the cells for which its entries hold.
type known struct {
	p       api.Paradigm
	cells   [][]int
	specs   [][]int
	regions []region
}

// knownOf lists cells and specs as numbers with a digit for each trait.
func knownOf(p api.Paradigm) known {
	k := known{p: p, cells: digits(p.Sizes, 0), specs: digits(p.Sizes, -1)}
	for _, e := range p.Entries {
		k.regions = append(k.regions, k.region(e.Spec))
	}
	return k
}

// digits are all lists of numbers from least on and below sizes, in ascending order.
func digits(sizes []int, least int) [][]int {
	list := [][]int{nil}
	for _, n := range sizes {
		var longer [][]int
		for _, d := range list {
			for v := least; v < n; v++ {
				longer = append(longer, append(slices.Clone(d), v))
			}
		}
		list = longer
	}
	return list
}

// region is the set of the cells for which a spec holds.
func (k known) region(spec []int) region {
	var r region
	for c, cell := range k.cells {
		holds := true
		for t := range cell {
			holds = holds && (spec[t] == -1 || spec[t] == cell[t])
		}
		if holds {
			r |= 1 << c
		}
	}
	return r
}

// regionOf is the set of cells of a list.
func (k known) regionOf(list [][]int) region {
	var r region
	for c, cell := range k.cells {
		if slices.ContainsFunc(list, func(given []int) bool { return slices.Equal(given, cell) }) {
			r |= 1 << c
		}
	}
	return r
}

// list is the cells of a set, in ascending order.
func (k known) list(r region) [][]int {
	var list [][]int
	for c, cell := range k.cells {
		if r.holds(c) {
			list = append(list, slices.Clone(cell))
		}
	}
	return list
}

// isMore reports whether the entry i is more special than j, by the definition.
func (k known) isMore(i, j int) bool {
	a, b := k.regions[i], k.regions[j]
	return a&^b == 0 && b&^a != 0
}

// matches are the numbers of the entries that match a cell.
func (k known) matches(c int) []int {
	var list []int
	for i, r := range k.regions {
		if r.holds(c) {
			list = append(list, i)
		}
	}
	return list
}

// decides is the number of the entry that is more special than all others that match a cell, or -1.
func (k known) decides(c int) int {
	for _, i := range k.matches(c) {
		best := true
		for _, j := range k.matches(c) {
			best = best && (i == j || k.isMore(i, j))
		}
		if best {
			return i
		}
	}
	return -1
}

// fill is the forms of all cells, -1 for none.
func (k known) fill() []int {
	var forms []int
	for c := range k.cells {
		if i := k.decides(c); i >= 0 {
			forms = append(forms, k.p.Entries[i].Form)
		} else {
			forms = append(forms, -1)
		}
	}
	return forms
}

// without is the paradigm with the entries whose numbers are not in a list.
func (k known) without(numbers ...int) known {
	p := api.Paradigm{Sizes: k.p.Sizes}
	for i, e := range k.p.Entries {
		if !slices.Contains(numbers, i) {
			p.Entries = append(p.Entries, e)
		}
	}
	return knownOf(p)
}

// specFor is the spec that holds for just these cells, if there is one.
func (k known) specFor(r region) ([]int, bool) {
	for _, spec := range k.specs {
		if k.region(spec) == r {
			return spec, true
		}
	}
	return nil, false
}

// hull is the spec with the fewest -1 of those that hold for all these cells.
func (k known) hull(r region) []int {
	var best []int
	fewest, several := math.MaxInt, false
	for _, spec := range k.specs {
		if r&^k.region(spec) != 0 {
			continue
		}
		n := 0
		for _, v := range spec {
			if v == -1 {
				n++
			}
		}
		several = n == fewest || several && n > fewest
		if n < fewest {
			best, fewest = spec, n
		}
	}
	if several {
		panic(fmt.Sprint("more than one hull: ", k.p.Sizes, k.list(r)))
	}
	return best
}

// dice gives numbers that seem to have no rule, the same ones in each test.
type dice uint32

func (d *dice) below(n int) int {
	*d = *d*1664525 + 1013904223
	return int(*d>>16) % n
}

// mixed is a paradigm with these sizes and at most so many entries, whose specs are often free.
func mixed(d *dice, sizes []int, most int) api.Paradigm {
	p := api.Paradigm{Sizes: sizes}
	forms, open := 1+d.below(4), 1+d.below(3)
	for range d.below(most + 1) {
		spec := make([]int, len(sizes))
		for t, n := range sizes {
			spec[t] = max(-1, d.below(n+open)-open)
		}
		p.Entries = append(p.Entries, api.Entry{Spec: spec, Form: d.below(forms)})
	}
	return p
}

// someSizes are all sizes that a paradigm may have.
func someSizes() [][]int {
	var list [][]int
	for traits := 1; traits <= 3; traits++ {
		for n := range 1 << traits {
			sizes := make([]int, traits)
			for t := range sizes {
				sizes[t] = 2 + n>>t&1
			}
			list = append(list, sizes)
		}
	}
	return list
}

// someParadigms are paradigms of many kinds. They are made just once, since most tests go through them.
var someParadigms = sync.OnceValue(func() []known {
	list := []known{knownOf(clashing()), knownOf(full())}
	d := dice(7)
	for _, sizes := range someSizes() {
		list = append(list, knownOf(made(sizes)))
		for n := range 90 {
			list = append(list, knownOf(mixed(&d, sizes, 2+n%9)))
		}
	}
	return list
})

// someRegions are sets of cells: all of them if they are few, else boxes, those with a cell more or less, and others.
func (k known) someRegions(d *dice) []region {
	var list []region
	if len(k.cells) <= 8 {
		for r := range region(1) << len(k.cells) {
			list = append(list, r)
		}
		return list
	}
	for _, spec := range k.specs {
		r := k.region(spec)
		list = append(list, r, r^1<<d.below(len(k.cells)), r^1<<d.below(len(k.cells)))
	}
	for range 50 {
		list = append(list, region(d.below(1<<15)|d.below(1<<12)<<15)&(1<<len(k.cells)-1))
	}
	return list
}

// shuffled is a list of cells in another order, some of them twice.
func shuffled(d *dice, list [][]int) [][]int {
	var cells [][]int
	for _, c := range list {
		for range 1 + d.below(2) {
			cells = slices.Insert(cells, d.below(len(cells)+1), slices.Clone(c))
		}
	}
	return cells
}

// count is how many cells a set has.
func count(r region) int { return bits.OnesCount32(uint32(r)) }

// refused is an argument with an error, and the one that must be named.
type refused[T any] struct {
	value T
	want  api.Errno
}

func badParadigms() []refused[api.Paradigm] {
	good, bad := entry(0, -1), entry(0, 2)
	return []refused[api.Paradigm]{
		{api.Paradigm{}, api.ErrArg},
		{made(nil, entry(0)), api.ErrArg},
		{made(sized(2, 2, 2, 2)), api.ErrArg},
		{made(sized(2, 2, 2, 2), entry(0, -1, -1, -1, -1)), api.ErrArg},
		{made(make([]int, 400)), api.ErrArg},
		{made(sized(1)), api.ErrArg},
		{made(sized(4)), api.ErrArg},
		{made(sized(0), entry(0, -1)), api.ErrArg},
		{made(sized(-1)), api.ErrArg},
		{made(sized(2, 1)), api.ErrArg},
		{made(sized(2, 3, 4)), api.ErrArg},
		{made(sized(math.MinInt)), api.ErrArg},
		{made(sized(3, math.MaxInt)), api.ErrArg},
		// What is not right about the sizes is named before too many entries, these before what is not right about them.
		{made(nil, slices.Repeat([]api.Entry{good}, 11)...), api.ErrArg},
		{made(sized(1), slices.Repeat([]api.Entry{good}, 11)...), api.ErrArg},
		{made(sized(2, 4), slices.Repeat([]api.Entry{entry(0, -1, -1)}, 11)...), api.ErrArg},
		{made(sized(2), slices.Repeat([]api.Entry{good}, 11)...), api.ErrLarge},
		{made(sized(2), slices.Repeat([]api.Entry{bad}, 11)...), api.ErrLarge},
		{made(sized(3, 3, 3), make([]api.Entry, 400)...), api.ErrLarge},
		{made(sized(2), make([]api.Entry, 10)...), api.ErrArg},
		{made(sized(2), entry(0)), api.ErrArg},
		{made(sized(2), entry(0, 0, 0)), api.ErrArg},
		{made(sized(2, 3), entry(0, 0)), api.ErrArg},
		{made(sized(2, 3, 2), entry(0, 0, 0, 0, 0)), api.ErrArg},
		{made(sized(2), bad), api.ErrArg},
		{made(sized(2), entry(0, -2)), api.ErrArg},
		{made(sized(3), entry(0, 3)), api.ErrArg},
		{made(sized(2, 3), entry(0, 2, 0)), api.ErrArg},
		{made(sized(3, 2), entry(0, 2, 2)), api.ErrArg},
		{made(sized(3, 3, 3), entry(0, -1, 0, -2)), api.ErrArg},
		{made(sized(2), entry(0, math.MinInt)), api.ErrArg},
		{made(sized(2), entry(0, math.MaxInt)), api.ErrArg},
		{made(sized(2), entry(-1, -1)), api.ErrArg},
		{made(sized(2), entry(10, -1)), api.ErrArg},
		{made(sized(2), entry(math.MinInt, 0)), api.ErrArg},
		{made(sized(2), entry(math.MaxInt, 0)), api.ErrArg},
		{made(sized(2), good, good, bad), api.ErrArg},
		{made(sized(2), append(slices.Repeat([]api.Entry{good}, 9), entry(10, 0))...), api.ErrArg},
	}
}

// badCells are lists that are not cells of a paradigm with these sizes, which has two traits at least.
func badCells(sizes []int) [][]int {
	low, high := make([]int, len(sizes)), make([]int, len(sizes))
	low[len(sizes)-1], high[0] = -1, sizes[0]
	last := make([]int, len(sizes))
	last[len(sizes)-1] = sizes[len(sizes)-1]
	least, most := slices.Clone(low), slices.Clone(high)
	least[0], most[1] = math.MinInt, math.MaxInt
	return [][]int{nil, {0}, {9}, make([]int, len(sizes)-1), make([]int, len(sizes)+1), make([]int, 400), low, high, last, least, most}
}

func same(a, b [][]int) bool { return slices.EqualFunc(a, b, slices.Equal) }

func sameParadigm(p, q api.Paradigm) bool {
	return slices.Equal(p.Sizes, q.Sizes) && slices.EqualFunc(p.Entries, q.Entries, func(a, b api.Entry) bool {
		return a.Form == b.Form && slices.Equal(a.Spec, b.Spec)
	})
}

func isZero(p api.Paradigm) bool { return sameParadigm(p, api.Paradigm{}) }

// roomy is a list with room behind it, into which a careless append would write.
func roomy[T any](list ...T) []T { return append(make([]T, 0, len(list)+20), list...) }

// roomyParadigm is a paradigm whose lists have room behind them.
func roomyParadigm(p api.Paradigm) api.Paradigm {
	c := api.Paradigm{Sizes: roomy(p.Sizes...), Entries: roomy(p.Entries...)}
	for i, e := range c.Entries {
		c.Entries[i].Spec = roomy(e.Spec...)
	}
	return c
}

// room is a paradigm with all that its lists have room for.
func room(p api.Paradigm) api.Paradigm {
	c := api.Paradigm{Sizes: p.Sizes[:cap(p.Sizes)]}
	for _, e := range p.Entries[:cap(p.Entries)] {
		c.Entries = append(c.Entries, api.Entry{Spec: e.Spec[:cap(e.Spec)], Form: e.Form})
	}
	return c
}

// roomyCells are cells with room behind them.
func roomyCells(list [][]int) [][]int {
	cells := roomy[[]int]()
	for _, c := range list {
		cells = append(cells, roomy(c...))
	}
	return cells
}

// roomOf is a list of lists with all that they have room for.
func roomOf(cells [][]int) [][]int {
	var list [][]int
	for _, c := range cells[:cap(cells)] {
		list = append(list, c[:cap(c)])
	}
	return list
}

// spoil writes into a list, and behind it as far as its memory goes.
func spoil(list []int) {
	list = list[:cap(list)]
	for i := range list {
		list[i] = 99
	}
}

// spoilAll writes into all lists, and reports whether one shares its memory with another one.
func spoilAll(lists ...[]int) bool {
	shared := false
	for i, list := range lists {
		var before [][]int
		for _, other := range lists {
			before = append(before, slices.Clone(other))
		}
		spoil(list)
		for j := range lists {
			shared = shared || j != i && !slices.Equal(lists[j], before[j])
		}
	}
	return shared
}

// spoilParadigm writes into all lists of a paradigm, and behind them, and reports whether two share memory.
func spoilParadigm(p api.Paradigm) bool {
	lists := [][]int{p.Sizes}
	for _, e := range p.Entries {
		lists = append(lists, e.Spec)
	}
	shared := spoilAll(lists...)
	entries := p.Entries[:cap(p.Entries)]
	for i := range entries {
		entries[i] = entry(99, 99)
	}
	return shared
}
