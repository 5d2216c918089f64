package stemma

import (
	"cmp"
	"slices"

	"vyakarana/api"
)

// Build: see P7.3.
func Build(t [][]int) (api.Tree, bool, api.Errno) {
	can, e := CanTree(t)
	if !can {
		return api.Tree{}, false, e
	}
	return build(t), true, api.OK
}

// build returns a tree for readings without a conflict: a node for each side, below the node of the
// smallest side around it, and then a node for each copy, below that of the smallest side that has it. The
// only change of a place that splits is at the node of its side. As no two copies are at one node, the
// places with three readings have readings of the nodes, too.
func build(t [][]int) api.Tree {
	list := sides(t)
	x := api.Tree{Parents: []int{-1}}
	for i, s := range list {
		// Without a conflict, a larger side that has one of the copies of s has all of them.
		x.Parents = append(x.Parents, home(list[:i], s[0]))
	}
	for c := range t {
		x.At = append(x.At, len(x.Parents))
		x.Parents = append(x.Parents, home(list, c))
	}
	return x
}

// sides returns the sides of all places that split, each once, the larger ones first.
func sides(t [][]int) [][]int {
	var list [][]int
	for p := range t[0] {
		if splits(t, p) {
			list = append(list, side(t, p))
		}
	}
	slices.SortFunc(list, func(a, b []int) int {
		return cmp.Or(cmp.Compare(len(b), len(a)), slices.Compare(a, b))
	})
	return slices.CompactFunc(list, slices.Equal)
}

// home returns the node of the last one of the sides that has the copy c, or else the node 0.
func home(sides [][]int, c int) int {
	for i := len(sides) - 1; i >= 0; i-- {
		if slices.Contains(sides[i], c) {
			return i + 1
		}
	}
	return 0
}
