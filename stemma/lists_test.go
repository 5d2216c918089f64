package stemma_test

import (
	"math"
	"slices"
	"sync"

	"vyakarana/api"
)

// l is a list of numbers.
func l(list ...int) []int { return list }

// tree is a tree with these parents, and copies at these nodes.
func tree(parents []int, at ...int) api.Tree { return api.Tree{Parents: parents, At: at} }

// chain are the parents of so many nodes in a row, star those of nodes that are all below the node 0.
func chain(nodes int) []int {
	var list []int
	for node := range nodes {
		list = append(list, node-1)
	}
	return list
}

func star(nodes int) []int { return append(l(-1), make([]int, nodes-1)...) }

// square is the readings of the chapter's first example.
func square() [][]int { return [][]int{{0, 0}, {0, 1}, {1, 0}, {1, 1}} }

// full is as many copies with as many readings as there may be.
func full() [][]int {
	return [][]int{{0, 0, 0, 0, 0, 0}, {1, 0, 0, 0, 0, 1}, {1, 1, 0, 2, 0, 0}, {0, 0, 2, 2, 0, 1}, {0, 0, 2, 2, 1, 2}, {0, 0, 2, 2, 1, 0}}
}

// dice gives numbers that seem to have no rule, the same ones in each test.
type dice uint32

func (d *dice) below(n int) int {
	*d = *d*1664525 + 1013904223
	return int(*d>>16) % n
}

// words are all lists of so many numbers below n.
func words(n, length int) [][]int {
	list := [][]int{nil}
	for range length {
		var longer [][]int
		for _, w := range list {
			for r := range n {
				longer = append(longer, append(slices.Clone(w), r))
			}
		}
		list = longer
	}
	return list
}

// rows are the parts of a list, as many as there are copies, all of one length.
func rows(w []int, copies int) [][]int {
	t := make([][]int, copies)
	for c := range t {
		t[c] = w[c*len(w)/copies : (c+1)*len(w)/copies]
	}
	return t
}

// mixed are readings of any copies, at most places only two different ones.
func mixed(d *dice) [][]int {
	t := make([][]int, 1+d.below(6))
	for range d.below(7) {
		first, most := d.below(3), 2+d.below(5)/4
		for c := range t {
			t[c] = append(t[c], (first+d.below(most))%3)
		}
	}
	return t
}

// grown are readings of copies that come from a tree on which each place changes once, or now and then twice.
func grown(d *dice) [][]int {
	x := someTree(d, 1+d.below(6), 1+d.below(9))
	t := make([][]int, len(x.At))
	for range d.below(7) {
		readings := make([]int, len(x.Parents))
		first, changed := d.below(3), d.below(len(readings))
		twice := d.below(3) == 0
		for node := range readings {
			readings[node] = first
			if node > 0 {
				readings[node] = readings[x.Parents[node]]
			}
			if node == changed || twice && node == changed/2 {
				readings[node] = (readings[node] + 1 + d.below(2)) % 3
			}
		}
		for c, node := range x.At {
			t[c] = append(t[c], readings[node])
		}
	}
	return t
}

// someTree is a tree with so many copies and nodes.
func someTree(d *dice, copies, nodes int) api.Tree {
	x := tree(l(-1))
	for node := 1; node < nodes; node++ {
		x.Parents = append(x.Parents, d.below(node))
	}
	for range copies {
		x.At = append(x.At, d.below(nodes))
	}
	return x
}

// someReadings are readings of many kinds: all of a few copies at a few places, and others. They are
// made just once, since most tests go through them.
var someReadings = sync.OnceValue(func() [][][]int {
	list := [][][]int{square(), full()}
	for copies := 1; copies <= 4; copies++ {
		for places := range 3 {
			for _, w := range words(3, copies*places) {
				list = append(list, rows(w, copies))
			}
		}
	}
	d := dice(7)
	for range 2500 {
		list = append(list, mixed(&d), grown(&d))
	}
	return list
})

// column is the readings of all copies at a place.
func column(t [][]int, place int) []int {
	var list []int
	for _, copy := range t {
		list = append(list, copy[place])
	}
	return list
}

// kinds are the different readings at a place, in ascending order.
func kinds(t [][]int, place int) []int {
	list := column(t, place)
	slices.Sort(list)
	return slices.Compact(list)
}

// conflict reports whether two places conflict, by the definition.
func conflict(t [][]int, p, q int) bool {
	if len(kinds(t, p)) != 2 || len(kinds(t, q)) != 2 {
		return false
	}
	for _, a := range kinds(t, p) {
		for _, b := range kinds(t, q) {
			if !slices.ContainsFunc(t, func(copy []int) bool { return copy[p] == a && copy[q] == b }) {
				return false
			}
		}
	}
	return true
}

// conflicts are all pairs of places that conflict, by the definition.
func conflicts(t [][]int) [][2]int {
	var list [][2]int
	for p := range t[0] {
		for q := range t[0] {
			if p < q && conflict(t, p, q) {
				list = append(list, [2]int{p, q})
			}
		}
	}
	return list
}

// fixed are the readings that the nodes must have because of their copies, or -1; false if copies at one node differ.
func fixed(t [][]int, x api.Tree, place int) ([]int, bool) {
	list := make([]int, len(x.Parents))
	for node := range list {
		list[node] = -1
		for c, at := range x.At {
			if at == node && list[node] >= 0 && list[node] != t[c][place] {
				return nil, false
			}
			if at == node {
				list[node] = t[c][place]
			}
		}
	}
	return list, true
}

// fewest is the smallest number of changes of all readings of the nodes: these are gone through one by one.
func fewest(t [][]int, x api.Tree, place int) (int, bool) {
	must, ok := fixed(t, x, place)
	if !ok {
		return 0, false
	}
	best, readings := len(must), make([]int, len(must))
	var from func(node, changes int)
	from = func(node, changes int) {
		if node == len(must) {
			best = min(best, changes)
			return
		}
		for r := range 3 {
			if must[node] >= 0 && must[node] != r {
				continue
			}
			readings[node] = r
			if node > 0 && readings[x.Parents[node]] != r {
				from(node+1, changes+1)
			} else {
				from(node+1, changes)
			}
		}
	}
	from(0, 0)
	return best, true
}

// total is the sum of fewest of all places.
func total(t [][]int, x api.Tree) (int, bool) {
	sum := 0
	for p := range t[0] {
		n, ok := fewest(t, x, p)
		if !ok {
			return 0, false
		}
		sum += n
	}
	return sum, true
}

// refused is an argument with an error, and the one that must be named.
type refused[T any] struct {
	value T
	want  api.Errno
}

func badReadings() []refused[[][]int] {
	seven := make([]int, 7)
	return []refused[[][]int]{
		{nil, api.ErrLarge},
		{[][]int{}, api.ErrLarge},
		{make([][]int, 7), api.ErrLarge},
		{make([][]int, 400), api.ErrLarge},
		{[][]int{{0}, {0}, {0}, {0}, {0}, {0}, {0}}, api.ErrLarge},
		{[][]int{seven}, api.ErrLarge},
		{[][]int{seven, seven}, api.ErrLarge},
		{[][]int{make([]int, 400)}, api.ErrLarge},
		// What is too large is named before what is not right.
		{[][]int{seven, {0}}, api.ErrLarge},
		{[][]int{{-1, 0, 0, 0, 0, 0, 3}, {5}}, api.ErrLarge},
		{[][]int{{0}, {1}, {3}, {-1}, {0, 0}, {}, {2}}, api.ErrLarge},
		// Only the readings of the copy 0 may be too many.
		{[][]int{{0}, seven}, api.ErrArg},
		{[][]int{{}, seven}, api.ErrArg},
		{[][]int{{0, 0, 0, 0, 0, 0}, seven}, api.ErrArg},
		{[][]int{{0}, {}}, api.ErrArg},
		{[][]int{{0}, nil}, api.ErrArg},
		{[][]int{nil, {0}}, api.ErrArg},
		{[][]int{{0, 1}, {0, 1}, {0, 1, 1}}, api.ErrArg},
		{[][]int{{0, 1}, {0, 1}, {0, 1}, {0, 1}, {0, 1}, {0}}, api.ErrArg},
		{[][]int{{-1}}, api.ErrArg},
		{[][]int{{3}}, api.ErrArg},
		{[][]int{{0, 1, 2, 2, 1, 3}}, api.ErrArg},
		{[][]int{{0, 0}, {0, 0}, {0, -1}}, api.ErrArg},
		{[][]int{{0}, {0}, {0}, {0}, {0}, {3}}, api.ErrArg},
		{[][]int{{math.MinInt}, {0}}, api.ErrArg},
		{[][]int{{0}, {math.MaxInt}}, api.ErrArg},
	}
}

func badTrees() []refused[api.Tree] {
	seven := l(0, 0, 0, 0, 0, 0, 0)
	return []refused[api.Tree]{
		{api.Tree{}, api.ErrLarge},
		{tree(nil, 0), api.ErrLarge},
		{tree(l(), 0, 0), api.ErrLarge},
		{tree(chain(17), 0), api.ErrLarge},
		{tree(star(17)), api.ErrLarge},
		{tree(make([]int, 400), 0), api.ErrLarge},
		{tree(l(-1), seven...), api.ErrLarge},
		{tree(star(16), make([]int, 400)...), api.ErrLarge},
		// What is too large is named before what is not right.
		{tree(make([]int, 17), 99), api.ErrLarge},
		{tree(l(0), seven...), api.ErrLarge},
		{tree(l(-1, 5), -1, -1, -1, -1, -1, -1, -1), api.ErrLarge},
		{tree(nil, -1), api.ErrLarge},
		{tree(l(0), 0), api.ErrArg},
		{tree(l(-2), 0), api.ErrArg},
		{tree(l(1, -1), 0), api.ErrArg},
		{tree(l(0, 0), 0), api.ErrArg},
		{tree(l(-1, -1), 0), api.ErrArg},
		{tree(l(-1, 1), 0), api.ErrArg},
		{tree(l(-1, 2, 0), 0), api.ErrArg},
		{tree(l(-1, 0, 2), 0), api.ErrArg},
		{tree(l(-1, 0, -1), 0), api.ErrArg},
		{tree(append(chain(15), 15), 0), api.ErrArg},
		{tree(l(-1, 0, math.MinInt), 0), api.ErrArg},
		{tree(l(-1, 0, math.MaxInt), 0), api.ErrArg},
		{tree(l(math.MinInt)), api.ErrArg},
		{tree(l(-1), -1), api.ErrArg},
		{tree(l(-1), 1), api.ErrArg},
		{tree(star(16), 0, 15, 16), api.ErrArg},
		{tree(star(3), 0, 1, 2, 2, 1, 3), api.ErrArg},
		{tree(l(-1, 0), 0, math.MinInt), api.ErrArg},
		{tree(l(-1, 0), math.MaxInt, 0), api.ErrArg},
	}
}

// outside are numbers that are none of a list with so many elements.
func outside(n int) []int { return l(-1, n, n+1, math.MinInt, math.MaxInt) }

func same(a, b [][]int) bool { return slices.EqualFunc(a, b, slices.Equal) }

func isZero(x api.Tree) bool { return len(x.Parents) == 0 && len(x.At) == 0 }

// copied are readings in memory of their own.
func copied(t [][]int) [][]int {
	var list [][]int
	for _, c := range t {
		list = append(list, slices.Clone(c))
	}
	return list
}

// roomy is a list with room behind it, into which a careless append would write.
func roomy[T any](list ...T) []T { return append(make([]T, 0, len(list)+20), list...) }

// roomyReadings are readings with room behind them.
func roomyReadings(t [][]int) [][]int {
	list := roomy[[]int]()
	for _, c := range t {
		list = append(list, roomy(c...))
	}
	return list
}

// room is a list with all that it has room for.
func room[T any](list []T) []T { return list[:cap(list)] }

// roomOf is readings with all that they have room for.
func roomOf(t [][]int) [][]int {
	var list [][]int
	for _, c := range room(t) {
		list = append(list, room(c))
	}
	return list
}

// spoilAll writes into all lists, and behind them, and reports whether one shares its memory with another one.
func spoilAll(lists ...[]int) bool {
	shared := false
	for i, list := range lists {
		before := copied(lists)
		for k := range room(list) {
			room(list)[k] = 99
		}
		for j := range lists {
			shared = shared || j != i && !slices.Equal(lists[j], before[j])
		}
	}
	return shared
}
