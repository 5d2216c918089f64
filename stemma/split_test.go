package stemma_test

import (
	"fmt"
	"slices"
	"testing"

	"vyakarana/api"
	"vyakarana/stemma"
)

func TestDifferentAndSide(t *testing.T) { // P7.2
	count := map[int]int{}
	for _, r := range someReadings() {
		for p := range r[0] {
			n, e := stemma.Different(r, p)
			if n != len(kinds(r, p)) || e != api.OK {
				t.Fatalf("%v, %d: Different: %d %v", r, p, n, e)
			}
			count[n]++
			var want []int
			for c := range r {
				if n == 2 && r[c][p] != r[0][p] {
					want = append(want, c)
				}
			}
			side, ok, e := stemma.Side(r, p)
			if !slices.Equal(side, want) || ok != (n == 2) || e != api.OK {
				t.Fatalf("%v, %d: Side: %v %v %v, not %v", r, p, side, ok, e, want)
			}
		}
	}
	if count[1] < 500 || count[2] < 500 || count[3] < 500 || len(count) > 3 {
		t.Error("the readings do not show enough:", count)
	}
}

func TestSideByHand(t *testing.T) { // P7.2, with the chapter's third example
	for i, c := range []struct {
		column []int
		n      int
		side   []int
	}{
		{l(0, 1, 2), 3, nil}, {l(2), 1, nil}, {l(1, 1, 1, 1, 1, 1), 1, nil}, {l(2, 2, 0, 2, 0), 2, l(2, 4)}, {l(0, 2, 2, 2, 2, 2), 2, l(1, 2, 3, 4, 5)},
		{l(1, 1, 1, 1, 1, 0), 2, l(5)}, {l(1, 1, 2, 2, 1, 0), 3, nil},
	} {
		r := make([][]int, len(c.column))
		for k, n := range c.column {
			r[k] = l(0, n, 2)
		}
		if n, e := stemma.Different(r, 1); n != c.n || e != api.OK {
			t.Errorf("%d: Different: %v %v", i, n, e)
		}
		if side, ok, e := stemma.Side(r, 1); !slices.Equal(side, c.side) || ok != (c.n == 2) || e != api.OK {
			t.Errorf("%d: Side: %v %v %v", i, side, ok, e)
		}
	}
}

// sidesConflict tells whether two places conflict by their sides: the chapter's consequence.
func sidesConflict(r [][]int, p, q int) bool {
	a, is, _ := stemma.Side(r, p)
	b, is2, _ := stemma.Side(r, q)
	within := func(a, b []int) bool {
		return !slices.ContainsFunc(a, func(c int) bool { return !slices.Contains(b, c) })
	}
	common := slices.ContainsFunc(a, func(c int) bool { return slices.Contains(b, c) })
	return is && is2 && !within(a, b) && !within(b, a) && common
}

func TestConflicts(t *testing.T) { // P7.2
	count := map[bool]int{}
	for _, r := range someReadings() {
		for p := range r[0] {
			for q := range r[0] {
				want := conflict(r, p, q)
				if is, e := stemma.Conflict(r, p, q); is != want || e != api.OK {
					t.Fatalf("%v, %d, %d: %v %v", r, p, q, is, e)
				}
				if sidesConflict(r, p, q) != want {
					t.Fatalf("%v, %d, %d: the sides say something else", r, p, q)
				}
			}
		}
		want := conflicts(r)
		if list, e := stemma.Conflicts(r); !slices.Equal(list, want) || e != api.OK {
			t.Fatalf("%v: %v %v, not %v", r, list, e, want)
		}
		can, e := stemma.CanTree(r)
		if can != (len(want) == 0) || e != api.OK {
			t.Fatalf("%v: %v %v, but %v", r, can, e, want)
		}
		count[can]++
	}
	if count[true] < 500 || count[false] < 500 {
		t.Error("the readings do not show enough:", count)
	}
}

func TestConflictsByHand(t *testing.T) { // P7.2, with the chapter's first example
	for i, c := range []struct {
		t        [][]int
		pairs    [][2]int
		greatest []int
	}{
		{square(), [][2]int{{0, 1}}, l(0)},
		{square()[:3], nil, l(0, 1)},
		{[][]int{{1, 2}, {1, 0}, {2, 2}, {2, 0}}, [][2]int{{0, 1}}, l(0)},
		// A place with three readings, or with one, is in no pair and in no set.
		{[][]int{{0, 0}, {0, 1}, {1, 0}, {1, 1}, {2, 0}}, nil, l(1)},
		{[][]int{{0, 0, 1}, {0, 1, 1}, {1, 0, 1}, {1, 2, 1}}, nil, l(0)},
		{[][]int{{0, 1, 2}, {0, 1, 2}}, nil, nil},
		{[][]int{nil, nil}, nil, nil},
		{[][]int{{0, 1}}, nil, nil},
		{[][]int{{0, 0, 0}, {0, 1, 1}, {1, 0, 0}, {1, 1, 1}}, [][2]int{{0, 1}, {0, 2}}, l(1, 2)},
		{[][]int{{0, 0, 0}, {0, 1, 1}, {1, 0, 1}, {1, 1, 0}}, [][2]int{{0, 1}, {0, 2}, {1, 2}}, l(0)},
		{[][]int{{2, 0, 0, 0}, {1, 0, 1, 1}, {0, 1, 0, 1}, {0, 1, 1, 0}}, [][2]int{{1, 2}, {1, 3}, {2, 3}}, l(1)},
		{[][]int{{0, 0, 0, 0}, {0, 1, 0, 1}, {1, 0, 1, 0}, {1, 1, 1, 1}}, [][2]int{{0, 1}, {0, 3}, {1, 2}, {2, 3}}, l(0, 2)},
		{[][]int{{0, 0, 0, 0, 0, 0}, {0, 1, 1, 1, 0, 0}, {1, 0, 0, 0, 1, 0}, {1, 1, 1, 0, 1, 1}}, [][2]int{{0, 1}, {0, 2}, {1, 4}, {2, 4}}, l(0, 3, 4, 5)},
	} {
		if list, e := stemma.Conflicts(c.t); !slices.Equal(list, c.pairs) || e != api.OK {
			t.Errorf("%d: Conflicts: %v %v", i, list, e)
		}
		if can, e := stemma.CanTree(c.t); can != (len(c.pairs) == 0) || e != api.OK {
			t.Errorf("%d: CanTree: %v %v", i, can, e)
		}
		if set, e := stemma.Greatest(c.t); !slices.Equal(set, c.greatest) || e != api.OK {
			t.Errorf("%d: Greatest: %v %v", i, set, e)
		}
	}
}

func TestThreeCopies(t *testing.T) { // P7.2: the seventh example of DOC.md
	for _, r := range someReadings() {
		if can, e := stemma.CanTree(r[:min(3, len(r))]); !can || e != api.OK {
			t.Fatalf("%v: %v %v", r, can, e)
		}
	}
}

// greatest is the first one, in ascending order, of the largest sets of places that stand together.
func greatest(r [][]int) []int {
	var best []int
	for bits := range 1 << len(r[0]) {
		var set []int
		fine := true
		for p := range r[0] {
			if bits>>p&1 == 1 {
				for _, q := range set {
					fine = fine && !conflict(r, q, p)
				}
				fine = fine && len(kinds(r, p)) == 2
				set = append(set, p)
			}
		}
		if fine && (len(set) > len(best) || len(set) == len(best) && slices.Compare(set, best) < 0) {
			best = set
		}
	}
	return best
}

func TestGreatest(t *testing.T) { // P7.2
	some := 0
	for _, r := range someReadings() {
		want := greatest(r)
		if set, e := stemma.Greatest(r); !slices.Equal(set, want) || e != api.OK {
			t.Fatalf("%v: %v %v, not %v", r, set, e, want)
		}
		if len(want) > 1 && len(conflicts(r)) > 1 {
			some++
		}
	}
	if some < 200 {
		t.Error("the readings do not show enough:", some)
	}
}

func TestMemoryOfSplits(t *testing.T) { // R5
	r := roomyReadings(full())
	before := fmt.Sprint(roomOf(r))
	for i, c := range []func() []int{
		func() []int { side, _, _ := stemma.Side(r, 0); return side },
		func() []int { set, _ := stemma.Greatest(r); return set },
		func() []int { list, _ := stemma.Conflicts(roomyReadings(square())); return list[0][:] },
		func() []int { n, _ := stemma.Different(r, 5); return l(n) },
	} {
		list := c()
		if len(list) == 0 {
			t.Error("nothing was found:", i)
		}
		spoilAll(list)
		if fmt.Sprint(roomOf(r)) != before {
			t.Fatal("an argument was changed:", i, r)
		}
	}
}
