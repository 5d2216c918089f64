package stemma_test

import (
	"fmt"
	"testing"

	"vyakarana/api"
	"vyakarana/stemma"
)

// changesOnce checks that each place that splits has just one change at fewest on a tree, by the definition.
func changesOnce(r [][]int, x api.Tree) bool {
	for p := range r[0] {
		if len(kinds(r, p)) != 2 {
			continue
		}
		if n, ok := fewest(r, x, p); n != 1 || !ok {
			return false
		}
	}
	return true
}

// fits reports whether a tree is one for these readings.
func fits(r [][]int, x api.Tree) bool {
	return stemma.ValidateTree(x) == api.OK && len(x.At) == len(r)
}

func TestBuild(t *testing.T) { // P7.3, S7
	count := map[bool]int{}
	for _, r := range someReadings() {
		x, ok, e := stemma.Build(r)
		if ok != (len(conflicts(r)) == 0) || e != api.OK {
			t.Fatalf("%v: %v %v", r, ok, e)
		}
		if !ok && !isZero(x) || ok && (!fits(r, x) || !changesOnce(r, x)) {
			t.Fatalf("%v: %v %v", r, x, ok)
		}
		count[ok]++
	}
	if count[true] < 500 || count[false] < 500 {
		t.Error("the readings do not show enough:", count)
	}
}

func TestBuildByHand(t *testing.T) { // P7.3
	for i, c := range []struct {
		t  [][]int
		ok bool
	}{
		{[][]int{nil}, true},
		{make([][]int, 6), true},
		{[][]int{{0, 1, 2, 0, 1, 2}}, true},
		{square(), false},
		{square()[:3], true},
		{[][]int{{0}, {1}, {2}}, true},
		// Sides that are alike, and one in the other, six deep.
		{[][]int{{0, 0, 1}, {1, 1, 0}, {1, 1, 0}, {0, 0, 1}}, true},
		{[][]int{{0, 0, 0, 0, 0}, {1, 0, 0, 0, 0}, {1, 1, 0, 0, 0}, {1, 1, 1, 0, 0}, {1, 1, 1, 1, 0}, {1, 1, 1, 1, 1}}, true},
		{[][]int{{2, 2, 2, 2, 2}, {1, 1, 1, 1, 1}, {2, 1, 1, 1, 1}, {2, 2, 1, 1, 1}, {2, 2, 2, 1, 1}, {2, 2, 2, 2, 1}}, true},
		// All copies have a side of their own, the copy 0 together with the others.
		{[][]int{{0, 0, 0, 0, 0, 0}, {1, 0, 0, 0, 0, 1}, {0, 1, 0, 0, 0, 1}, {0, 0, 1, 0, 0, 1}, {0, 0, 0, 1, 0, 1}, {0, 0, 0, 0, 1, 1}}, true},
		// A place with three readings is in no one's way, though it changes more than once on each tree.
		{[][]int{{0, 0, 0}, {0, 1, 1}, {1, 2, 0}, {2, 2, 0}}, true},
		{[][]int{{0, 0, 2}, {0, 1, 1}, {1, 0, 0}, {1, 1, 2}}, false},
	} {
		x, ok, e := stemma.Build(c.t)
		if ok != c.ok || e != api.OK {
			t.Errorf("%d: %v %v", i, ok, e)
		}
		if ok && (!fits(c.t, x) || !changesOnce(c.t, x)) || !ok && !isZero(x) {
			t.Errorf("%d: %v", i, x)
		}
	}
}

// allTrees are all trees with so many nodes and copies.
func allTrees(nodes, copies int) []api.Tree {
	parents := [][]int{{-1}}
	for node := 1; node < nodes; node++ {
		var longer [][]int
		for _, list := range parents {
			for parent := range node {
				longer = append(longer, append(list[:node:node], parent))
			}
		}
		parents = longer
	}
	var list []api.Tree
	for _, p := range parents {
		for _, at := range words(nodes, copies) {
			list = append(list, tree(p, at...))
		}
	}
	return list
}

func TestNoTree(t *testing.T) { // P7.3: there is a tree exactly if no two places conflict
	var trees []api.Tree
	for nodes := 1; nodes <= 4; nodes++ {
		trees = append(trees, allTrees(nodes, 4)...)
	}
	for _, w := range words(2, 8) {
		r := rows(w, 4)
		has := false
		for _, x := range trees {
			has = has || changesOnce(r, x)
		}
		if _, ok, e := stemma.Build(r); ok != has || e != api.OK {
			t.Fatalf("%v: %v %v, not %v", r, ok, e, has)
		}
	}
}

func TestEqualTrees(t *testing.T) { // R4, R11
	for _, r := range someReadings() {
		x, _, _ := stemma.Build(r)
		again, _, _ := stemma.Build(roomyReadings(r))
		if fmt.Sprint(x) != fmt.Sprint(again) {
			t.Fatalf("%v: %v, %v", r, x, again)
		}
	}
}

func TestMemoryOfTrees(t *testing.T) { // R5
	r := roomyReadings([][]int{{0, 0, 2, 0}, {1, 0, 0, 1}, {1, 1, 1, 1}, {0, 0, 2, 0}})
	before := fmt.Sprint(roomOf(r))
	x, ok, e := stemma.Build(r)
	if !ok || e != api.OK || spoilAll(x.Parents, x.At) {
		t.Error("lists of one result share memory:", ok, e)
	}
	if fmt.Sprint(roomOf(r)) != before {
		t.Error("an argument was changed:", r)
	}
}
