package stemma_test

import (
	"fmt"
	"math"
	"slices"
	"testing"

	"vyakarana/api"
	"vyakarana/stemma"
)

// checkOnTree checks what is told about a place on a tree, against all readings of the nodes.
func checkOnTree(t *testing.T, r [][]int, x api.Tree, p int) bool {
	t.Helper()
	want, has := fewest(r, x, p)
	n, ok, e := stemma.Fewest(r, x, p)
	if n != want || ok != has || e != api.OK {
		t.Fatalf("%v, %v, %d: Fewest: %d %v %v, not %d %v", r, x, p, n, ok, e, want, has)
	}
	list, ok, e := stemma.Readings(r, x, p)
	if ok != has || e != api.OK || !has && len(list) > 0 {
		t.Fatalf("%v, %v, %d: Readings: %v %v %v", r, x, p, list, ok, e)
	}
	if has {
		if n, e := stemma.CheckReadings(r, x, p, list); n != want || e != api.OK {
			t.Fatalf("%v, %v, %d: CheckReadings of %v: %d %v, not %d", r, x, p, list, n, e, want)
		}
		if want < len(kinds(r, p))-1 {
			t.Fatalf("%v, %v, %d: only %d changes", r, x, p, want)
		}
	}
	return has
}

func TestFewest(t *testing.T) { // P7.4
	d, count := dice(3), map[bool]int{}
	for _, r := range someReadings() {
		for range 2 {
			x := someTree(&d, len(r), 1+d.below(7))
			for p := range r[0] {
				count[checkOnTree(t, r, x, p)]++
			}
		}
	}
	if count[true] < 1000 || count[false] < 1000 {
		t.Error("the trees do not show enough:", count)
	}
}

func TestFewestOnLargeTrees(t *testing.T) { // P7.4
	d, most := dice(9), 0
	for k := range 60 {
		x := someTree(&d, 6, 13+k%4)
		// No two copies are at one node, so that there are readings of the nodes, and but a few nodes are open.
		for c := range x.At {
			x.At[c] = (d.below(2) + 2*c + k) % len(x.Parents)
		}
		r := make([][]int, 6)
		for c := range r {
			r[c] = l(d.below(3))
		}
		if !checkOnTree(t, r, x, 0) {
			t.Fatalf("%v, %v: nothing was found", r, x)
		}
		n, _, _ := stemma.Fewest(r, x, 0)
		most = max(most, n)
	}
	if most < 4 {
		t.Error("the trees do not show enough:", most)
	}
}

func TestFewestByHand(t *testing.T) { // P7.4, with the chapter's second example
	for i, c := range []struct {
		column []int
		x      api.Tree
		n      int
		ok     bool
	}{
		{l(0, 1), tree(l(-1, 0, 0), 1, 2), 1, true},
		{l(1, 1), tree(l(-1, 0, 0), 1, 2), 0, true},
		{l(2), tree(l(-1), 0), 0, true},
		{l(2, 2, 2), tree(l(-1), 0, 0, 0), 0, true},
		{l(2, 1), tree(l(-1), 0, 0), 0, false},
		{l(2, 1, 2), tree(chain(16), 15, 3, 15), 1, true},
		{l(2, 1, 0), tree(chain(16), 15, 3, 15), 0, false},
		{l(0, 1, 2), tree(star(4), 1, 2, 3), 2, true},
		{l(0, 1, 2, 1), tree(star(5), 1, 2, 3, 4), 2, true},
		{l(0, 1, 2, 1), tree(star(4), 1, 2, 3, 0), 2, true},
		{l(0, 1, 2, 2), tree(star(4), 1, 2, 3, 0), 2, true},
		// To and fro along a chain, and between the two sides of a tree.
		{l(0, 1, 0, 1, 0, 1), tree(chain(16), 0, 3, 6, 9, 12, 15), 5, true},
		{l(0, 0, 0, 1, 1, 1), tree(chain(16), 0, 6, 12, 3, 9, 15), 5, true},
		{l(0, 1, 0, 1), tree(l(-1, 0, 0, 1, 1, 2, 2), 3, 4, 5, 6), 2, true},
		{l(0, 0, 1, 1), tree(l(-1, 0, 0, 1, 1, 2, 2), 3, 4, 5, 6), 1, true},
		{l(0, 0, 1, 1, 2), tree(l(-1, 0, 0, 1, 1, 2, 2), 3, 4, 5, 6, 0), 2, true},
		{l(0, 1, 2, 1, 2, 0), tree(l(-1, 0, 0, 1, 1, 2, 2), 3, 4, 5, 6, 1, 2), 5, true},
	} {
		r := make([][]int, len(c.column))
		for k, n := range c.column {
			r[k] = l(k%3, n)
		}
		if n, ok, e := stemma.Fewest(r, c.x, 1); n != c.n || ok != c.ok || e != api.OK {
			t.Errorf("%d: Fewest: %d %v %v", i, n, ok, e)
		}
		checkOnTree(t, r, c.x, 1)
	}
}

func TestTotal(t *testing.T) { // P7.4
	d, count := dice(4), map[bool]int{}
	for _, r := range someReadings() {
		x := someTree(&d, len(r), 1+d.below(7))
		if d.below(2) == 0 {
			x = tree(l(-1, 0, 1, 1, 0, 4, 4), l(2, 3, 5, 6, 0, 4)[:len(r)]...)
		}
		want, has := total(r, x)
		if n, ok, e := stemma.Total(r, x); n != want || ok != has || e != api.OK {
			t.Fatalf("%v, %v: %d %v %v, not %d %v", r, x, n, ok, e, want, has)
		}
		count[has]++
	}
	if count[true] < 1000 || count[false] < 1000 {
		t.Error("the trees do not show enough:", count)
	}
	for i, c := range []struct {
		t  [][]int
		x  api.Tree
		n  int
		ok bool
	}{
		{[][]int{nil, nil}, tree(l(-1), 0, 0), 0, true},
		{square(), tree(star(5), 1, 2, 3, 4), 4, true},
		{square(), tree(l(-1, 0, 0, 1), 0, 1, 2, 3), 3, true},
		{square(), tree(l(-1, 0), 0, 0, 1, 1), 0, false},
		// All places but the last one have readings of the nodes.
		{[][]int{{0, 0, 0}, {1, 1, 2}, {1, 1, 1}}, tree(l(-1, 0), 0, 1, 1), 0, false},
		{[][]int{{0, 0, 0}, {1, 1, 1}, {1, 1, 1}}, tree(l(-1, 0), 0, 1, 1), 3, true},
	} {
		if n, ok, e := stemma.Total(c.t, c.x); n != c.n || ok != c.ok || e != api.OK {
			t.Errorf("%d: %d %v %v", i, n, ok, e)
		}
	}
}

func TestCheckReadings(t *testing.T) { // P7.4
	r := [][]int{{2, 0}, {2, 1}, {2, 1}, {2, 2}}
	x := tree(l(-1, 0, 1, 1, 0), 0, 2, 2, 4)
	for i, c := range []struct {
		place    int
		readings []int
		n        int
		want     api.Errno
	}{
		{1, l(0, 0, 1, 0, 2), 2, api.OK},
		{1, l(0, 1, 1, 1, 2), 2, api.OK},
		{1, l(0, 2, 1, 0, 2), 4, api.OK},
		{1, l(0, 2, 1, 2, 2), 3, api.OK},
		{0, l(2, 2, 2, 2, 2), 0, api.OK},
		{0, l(2, 1, 2, 0, 2), 3, api.OK},
		{1, l(1, 1, 1, 1, 2), 0, api.ErrProof},
		{1, l(0, 1, 0, 1, 2), 0, api.ErrProof},
		{1, l(0, 1, 1, 1, 1), 0, api.ErrProof},
		{0, l(0, 0, 1, 0, 2), 0, api.ErrProof},
		{1, nil, 0, api.ErrArg},
		{1, l(0, 0, 1, 0), 0, api.ErrArg},
		{1, l(0, 0, 1, 0, 2, 0), 0, api.ErrArg},
		{1, make([]int, 400), 0, api.ErrArg},
		{1, l(0, 3, 1, 0, 2), 0, api.ErrArg},
		{1, l(0, -1, 1, 0, 2), 0, api.ErrArg},
		{1, l(0, 0, 1, math.MinInt, 2), 0, api.ErrArg},
		{1, l(0, 0, 1, math.MaxInt, 2), 0, api.ErrArg},
		// What is no reading is named before another one than the copy's.
		{1, l(1, 1, 1, 1, 3), 0, api.ErrArg},
		{1, l(1, -1, 0, 0, 0), 0, api.ErrArg},
	} {
		if n, e := stemma.CheckReadings(r, x, c.place, c.readings); n != c.n || e != c.want {
			t.Errorf("%d: %d %v", i, n, e)
		}
	}
	// Copies that differ are at one node: there are no readings of the nodes.
	for _, readings := range words(3, 2) {
		if n, e := stemma.CheckReadings([][]int{{0}, {1}}, tree(l(-1, 0), 1, 1), 0, readings); n != 0 || e != api.ErrProof {
			t.Errorf("%v: %d %v", readings, n, e)
		}
	}
}

func TestCheckAllReadings(t *testing.T) { // P7.4
	d, count := dice(6), map[api.Errno]int{}
	for k := range 60 {
		r := mixed(&d)
		x := someTree(&d, len(r), 1+k%5)
		for p := range r[0] {
			must, ok := fixed(r, x, p)
			for _, readings := range words(3, len(x.Parents)) {
				n, want := 0, api.OK
				for node, parent := range x.Parents {
					if ok && must[node] >= 0 && readings[node] != must[node] || !ok {
						want = api.ErrProof
					}
					if node > 0 && readings[node] != readings[parent] {
						n++
					}
				}
				if want != api.OK {
					n = 0
				}
				if got, e := stemma.CheckReadings(r, x, p, readings); got != n || e != want {
					t.Fatalf("%v, %v, %d, %v: %d %v, not %d %v", r, x, p, readings, got, e, n, want)
				}
				count[want]++
			}
		}
	}
	if count[api.OK] < 500 || count[api.ErrProof] < 500 {
		t.Error("the readings do not show enough:", count)
	}
}

func TestMemoryOfReadings(t *testing.T) { // R5, R11
	r := roomyReadings(full())
	x := tree(roomy(0, 0, 0, 1, 1, 2, 2, 3, 3), roomy(8, 7, 6, 5, 4, 3)...)
	x.Parents[0] = -1
	first, _, _ := stemma.Readings(r, x, 3)
	claimed := roomy(first...)
	before := fmt.Sprint(roomOf(r), room(x.Parents), room(x.At), room(claimed))
	for range 3 {
		list, ok, e := stemma.Readings(r, x, 3)
		if !ok || e != api.OK || !slices.Equal(list, claimed) {
			t.Error(list, ok, e)
		}
		spoilAll(list)
		_, e = stemma.CheckReadings(r, x, 3, claimed)
		_, ok, _ = stemma.Fewest(r, x, 3)
		_, all, _ := stemma.Total(r, x)
		if e != api.OK || !ok || !all {
			t.Error(e, ok, all)
		}
		if fmt.Sprint(roomOf(r), room(x.Parents), room(x.At), room(claimed)) != before {
			t.Fatal("an argument was changed:", r, x, claimed)
		}
	}
}
