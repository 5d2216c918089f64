package sound_test

import (
	"math"
	"slices"
	"testing"

	"vyakarana/api"
	"vyakarana/sound"
)

// checkRoom reports a table of which one row gets into another one when it grows or is written to.
func checkRoom(t *testing.T, x [][]int) {
	t.Helper()
	for i := range x {
		before := copied(x)
		_ = append(x[i], 9)
		for j := range x[i] {
			x[i][j] += 10
		}
		for j := range x {
			if j != i && !slices.Equal(x[j], before[j]) {
				t.Errorf("rows %d and %d share their memory", i, j)
			}
		}
	}
}

// someTables are all small tables, with sounds in any places, and those with six sounds in the given order.
func someTables() [][][]int {
	return slices.Concat(tables(5), tables(5, 0, 3), tables(4, 1, 0, 2), cuts([]int{5, 4, 3, 2, 1, 0}))
}

func TestSplit(t *testing.T) { // P1.5
	for _, x := range someTables() {
		before := copied(x)
		for row := range x {
			for at := 1; at < len(x[row]); at++ {
				want := slices.Insert(copied(x), row+1, x[row][at:])
				want[row] = x[row][:at]
				got, e := sound.Split(x, row, at)
				if !same(got, want) || e != api.OK {
					t.Fatalf("%v, %d, %d: %v %v", x, row, at, got, e)
				}
				checkSplit(t, x, got, row)
				checkRoom(t, got)
				if !same(x, before) {
					t.Fatal("the table was changed:", before, x)
				}
			}
		}
	}
}

// checkSplit: after Split, all Classes are there still, and Join undoes it.
func checkSplit(t *testing.T, x, after [][]int, row int) {
	t.Helper()
	old, _ := sound.Classes(x)
	now, _ := sound.Classes(after)
	for _, set := range old {
		if !slices.ContainsFunc(now, func(c []int) bool { return slices.Equal(c, set) }) {
			t.Fatalf("%v: %v is no class of %v", x, set, after)
		}
	}
	if back, e := sound.Join(after, row); !same(back, x) || e != api.OK {
		t.Fatalf("%v: Join of %v: %v %v", x, after, back, e)
	}
}

func TestSplitErrors(t *testing.T) { // P1.5
	x := [][]int{{0, 1}, {2}}
	six := [][]int{{0}, {1}, {2}, {3}, {4}, {5}}
	for i, c := range []struct {
		t       [][]int
		row, at int
		want    api.Errno
	}{
		{x, -1, 1, api.ErrNone},
		{x, 2, 1, api.ErrNone},
		{x, 2, 9, api.ErrNone},
		{x, math.MinInt, math.MinInt, api.ErrNone},
		{x, math.MaxInt, 0, api.ErrNone},
		{x, 0, 0, api.ErrArg},
		{x, 0, -1, api.ErrArg},
		{x, 0, 2, api.ErrArg},
		{x, 1, 1, api.ErrArg},
		{x, 0, math.MaxInt, api.ErrArg},
		{six, 6, 0, api.ErrNone},
		// With six rows each is of one sound, so that at is wrong first.
		{six, 0, 1, api.ErrArg},
	} {
		if l, e := sound.Split(c.t, c.row, c.at); len(l) != 0 || e != c.want {
			t.Errorf("%d: %v %v, not %v", i, l, e, c.want)
		}
	}
}

func TestJoin(t *testing.T) { // P1.5
	for _, x := range someTables() {
		before := copied(x)
		for row := range len(x) - 1 {
			want := slices.Delete(copied(x), row+1, row+2)
			want[row] = slices.Concat(x[row], x[row+1])
			got, e := sound.Join(x, row)
			if !same(got, want) || e != api.OK {
				t.Fatalf("%v, %d: %v %v", x, row, got, e)
			}
			checkRoom(t, got)
			if !same(x, before) {
				t.Fatal("the table was changed:", before, x)
			}
		}
		for _, row := range []int{-1, len(x) - 1, len(x), math.MinInt, math.MaxInt} {
			if l, e := sound.Join(x, row); len(l) != 0 || e != api.ErrNone {
				t.Fatalf("%v, %d: %v %v", x, row, l, e)
			}
		}
	}
}

// renamed are sets with other sounds, in ascending order.
func renamed(sets [][]int, to []int) [][]int {
	list := copied(sets)
	for _, set := range list {
		for i := range set {
			set[i] = to[set[i]]
		}
		slices.Sort(set)
	}
	slices.SortFunc(list, slices.Compare)
	return list
}

func TestRename(t *testing.T) { // P1.5
	for _, to := range [][]int{{0, 1, 2, 3, 4, 5}, {5, 4, 3, 2, 1, 0}, {1, 2, 0, 5, 3, 4}} {
		for _, x := range someTables() {
			before := copied(x)
			want := copied(x)
			for _, row := range want {
				for i := range row {
					row[i] = to[row[i]]
				}
			}
			got, e := sound.Rename(x, to)
			if !same(got, want) || e != api.OK {
				t.Fatalf("%v by %v: %v %v", x, to, got, e)
			}
			old, _ := sound.Classes(x)
			now, _ := sound.Classes(got)
			if !same(now, renamed(old, to)) {
				t.Fatalf("%v by %v: the classes %v", x, to, now)
			}
			checkRoom(t, got)
			if !same(x, before) {
				t.Fatal("the table was changed:", before, x)
			}
		}
	}
	for _, to := range [][]int{nil, {0, 1, 2}, {0, 1, 2, 3, 4}, {0, 1, 2, 3, 4, 4}, {0, 1, 2, 3, 4, 6}, {-1, 1, 2, 3, 4, 5}, {0, 1, 2, 3, 4, 5, 0}, {0, 1, 2, 3, 4, 5, 6}} {
		if l, e := sound.Rename([][]int{{0, 1}, {2}}, to); len(l) != 0 || e != api.ErrArg {
			t.Errorf("%v: %v %v", to, l, e)
		}
	}
}
