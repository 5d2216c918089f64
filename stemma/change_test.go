package stemma_test

import (
	"fmt"
	"math"
	"slices"
	"testing"

	"vyakarana/api"
	"vyakarana/stemma"
)

func TestApart(t *testing.T) { // P7.5
	for _, r := range someReadings() {
		for i := range r {
			for j := range r {
				want := 0
				for p := range r[0] {
					if r[i][p] != r[j][p] {
						want++
					}
				}
				n, e := stemma.Apart(r, i, j)
				if n != want || e != api.OK {
					t.Fatalf("%v, %d, %d: %d %v, not %d", r, i, j, n, e, want)
				}
				for k := range r {
					a, _ := stemma.Apart(r, i, k)
					b, _ := stemma.Apart(r, k, j)
					if n > a+b {
						t.Fatalf("%v: %d and %d are further apart than by %d", r, i, j, k)
					}
				}
			}
		}
	}
	if n, e := stemma.Apart([][]int{{0, 1, 2, 0, 1, 2}, {1, 2, 0, 1, 2, 0}}, 1, 0); n != 6 || e != api.OK {
		t.Error(n, e)
	}
}

func TestTotalAndApart(t *testing.T) { // P7.5: the Total is at least Apart of any two copies
	d, count := dice(8), 0
	for _, r := range someReadings() {
		x := someTree(&d, len(r), 1+d.below(16))
		n, ok, _ := stemma.Total(r, x)
		for i := range r {
			for j := range r {
				if apart, _ := stemma.Apart(r, i, j); ok && n < apart {
					t.Fatalf("%v, %v: %d, but %d and %d are %d apart", r, x, n, i, j, apart)
				}
			}
		}
		if ok {
			count++
		}
	}
	if count < 1000 {
		t.Error("the trees do not show enough:", count)
	}
}

func TestDoubles(t *testing.T) { // P7.5
	for _, r := range someReadings() {
		var want [][]int
		for c := range r {
			var set []int
			for k := range r {
				if slices.Equal(r[c], r[k]) {
					set = append(set, k)
				}
			}
			want = append(want, set)
		}
		slices.SortFunc(want, slices.Compare)
		want = slices.CompactFunc(want, slices.Equal)
		if list, e := stemma.Doubles(r); !same(list, want) || e != api.OK {
			t.Fatalf("%v: %v %v, not %v", r, list, e, want)
		}
	}
	for i, c := range []struct{ t, want [][]int }{
		{[][]int{{0, 1}}, [][]int{{0}}},
		{[][]int{nil, nil, nil}, [][]int{{0, 1, 2}}},
		{[][]int{{0}, {1}, {2}, {1}, {0}, {1}}, [][]int{{0, 4}, {1, 3, 5}, {2}}},
		{[][]int{{2, 1}, {1, 2}, {2, 2}, {1, 2}, {2, 1}, {1, 1}}, [][]int{{0, 4}, {1, 3}, {2}, {5}}},
	} {
		if list, e := stemma.Doubles(c.t); !same(list, c.want) || e != api.OK {
			t.Errorf("%d: %v %v", i, list, e)
		}
	}
}

// orders are all lists of the numbers 0, 1 and 2 in some order.
func orders() [][]int {
	return [][]int{l(0, 1, 2), l(0, 2, 1), l(1, 0, 2), l(1, 2, 0), l(2, 0, 1), l(2, 1, 0)}
}

func TestSpell(t *testing.T) { // P7.5
	d := dice(2)
	for _, r := range someReadings() {
		x := someTree(&d, len(r), 1+d.below(7))
		for p := range r[0] {
			to := orders()[d.below(6)]
			want := copied(r)
			for c := range want {
				want[c][p] = to[r[c][p]]
			}
			s, e := stemma.Spell(r, p, to)
			if !same(s, want) || e != api.OK {
				t.Fatalf("%v, %d, %v: %v %v, not %v", r, p, to, s, e, want)
			}
			checkSpelled(t, r, s, x)
		}
	}
}

// checkSpelled checks that readings and those that they became have the same conflicts, Apart and Fewest.
func checkSpelled(t *testing.T, r, s [][]int, x api.Tree) {
	t.Helper()
	a, _ := stemma.Conflicts(r)
	b, _ := stemma.Conflicts(s)
	if !slices.Equal(a, b) {
		t.Fatalf("%v, %v: other conflicts", r, s)
	}
	for c := range r {
		n, _ := stemma.Apart(r, 0, c)
		m, _ := stemma.Apart(s, 0, c)
		if n != m {
			t.Fatalf("%v, %v: another Apart", r, s)
		}
	}
	for p := range r[0] {
		n, ok, _ := stemma.Fewest(r, x, p)
		m, is, _ := stemma.Fewest(s, x, p)
		if n != m || ok != is {
			t.Fatalf("%v, %v, %v: another Fewest", r, s, x)
		}
	}
}

func TestSpellByHand(t *testing.T) { // P7.5
	for i, c := range []struct {
		to, column []int
		want       api.Errno
	}{
		{l(0, 1, 2), l(0, 1, 2, 1), api.OK},
		{l(1, 2, 0), l(1, 2, 0, 2), api.OK},
		{l(2, 1, 0), l(2, 1, 0, 1), api.OK},
		{nil, nil, api.ErrArg},
		{l(0, 1), nil, api.ErrArg},
		{l(1, 0), nil, api.ErrArg},
		{l(0, 1, 2, 0), nil, api.ErrArg},
		{l(0, 1, 2, 3), nil, api.ErrArg},
		{l(0, 1, 1), nil, api.ErrArg},
		{l(0, 0, 2), nil, api.ErrArg},
		{l(2, 2, 2), nil, api.ErrArg},
		{l(1, 2, 3), nil, api.ErrArg},
		{l(-1, 0, 1), nil, api.ErrArg},
		{l(math.MinInt, 1, math.MaxInt), nil, api.ErrArg},
		{make([]int, 400), nil, api.ErrArg},
	} {
		s, e := stemma.Spell([][]int{{0, 0, 0}, {0, 1, 0}, {0, 2, 0}, {0, 1, 0}}, 1, c.to)
		if e != c.want || (len(s) > 0) != (e == api.OK) || e == api.OK && !slices.Equal(column(s, 1), c.column) {
			t.Errorf("%d: %v %v", i, s, e)
		}
	}
	for _, to := range words(4, 3) {
		is := slices.ContainsFunc(orders(), func(order []int) bool { return slices.Equal(order, to) })
		if s, e := stemma.Spell([][]int{{2}}, 0, to); (e == api.OK) != is || is && s[0][0] != to[2] {
			t.Errorf("%v: %v %v", to, s, e)
		}
	}
}

func TestWithout(t *testing.T) { // P7.5
	for _, r := range someReadings() {
		for p := range r[0] {
			w, e := stemma.Without(r, p)
			if len(r[0]) == 1 {
				if len(w) > 0 || e != api.ErrArg {
					t.Fatalf("%v: %v %v", r, w, e)
				}
				continue
			}
			want := copied(r)
			for c := range want {
				want[c] = slices.Delete(want[c], p, p+1)
			}
			if !same(w, want) || e != api.OK {
				t.Fatalf("%v, %d: %v %v", r, p, w, e)
			}
			// The pairs are those that were there, of the places that are left.
			var left [][2]int
			for _, pair := range conflicts(r) {
				for k := range pair {
					if pair[k] > p {
						pair[k]--
					} else if pair[k] == p {
						pair = [2]int{-1, -1}
						break
					}
				}
				if pair[0] >= 0 {
					left = append(left, pair)
				}
			}
			if pairs, _ := stemma.Conflicts(w); !slices.Equal(pairs, left) {
				t.Fatalf("%v, %d: %v, not %v", r, p, pairs, left)
			}
		}
	}
	if w, e := stemma.Without([][]int{{0}, {1}}, 0); len(w) > 0 || e != api.ErrArg {
		t.Error(w, e)
	}
}

func TestLose(t *testing.T) { // P7.5
	for _, r := range someReadings() {
		three := false
		for p := range r[0] {
			three = three || len(kinds(r, p)) == 3
		}
		for c := range r {
			s, e := stemma.Lose(r, c)
			if len(r) == 1 {
				if len(s) > 0 || e != api.ErrArg {
					t.Fatalf("%v: %v %v", r, s, e)
				}
				continue
			}
			if !same(s, slices.Delete(copied(r), c, c+1)) || e != api.OK {
				t.Fatalf("%v, %d: %v %v", r, c, s, e)
			}
			pairs, _ := stemma.Conflicts(s)
			for _, pair := range pairs {
				if !three && !conflict(r, pair[0], pair[1]) {
					t.Fatalf("%v, %d: a new conflict %v", r, c, pair)
				}
			}
		}
	}
	if s, e := stemma.Lose([][]int{{0, 0}}, 0); len(s) > 0 || e != api.ErrArg {
		t.Error(s, e)
	}
	if s, e := stemma.Lose([][]int{nil, nil}, 1); len(s) != 1 || len(s[0]) != 0 || e != api.OK {
		t.Error(s, e)
	}
}

func TestMemoryOfChanges(t *testing.T) { // R5
	r := roomyReadings(full())
	// Two copies have one list in memory, as arguments may have.
	r[5] = r[4]
	to := roomy(2, 0, 1)
	before := fmt.Sprint(roomOf(r), room(to))
	for i, c := range []func() ([][]int, api.Errno){
		func() ([][]int, api.Errno) { return stemma.Doubles(r) },
		func() ([][]int, api.Errno) { return stemma.Spell(r, 2, to) },
		func() ([][]int, api.Errno) { return stemma.Spell(r, 5, l(0, 1, 2)) },
		func() ([][]int, api.Errno) { return stemma.Without(r, 0) },
		func() ([][]int, api.Errno) { return stemma.Without(r, 5) },
		func() ([][]int, api.Errno) { return stemma.Lose(r, 0) },
		func() ([][]int, api.Errno) { return stemma.Lose(r, 5) },
	} {
		lists, e := c()
		if len(lists) == 0 || e != api.OK {
			t.Error("nothing was made:", i, e)
		}
		if spoilAll(lists...) {
			t.Error("lists of one result share memory:", i)
		}
		if fmt.Sprint(roomOf(r), room(to)) != before {
			t.Fatal("an argument was changed:", i, r, to)
		}
	}
}
