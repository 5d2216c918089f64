package sound_test

import (
	"math"
	"slices"
	"testing"

	"vyakarana/api"
	"vyakarana/sound"
)

func same(a, b [][]int) bool { return slices.EqualFunc(a, b, slices.Equal) }

func copied(t [][]int) [][]int {
	var c [][]int
	for _, row := range t {
		c = append(c, slices.Clone(row))
	}
	return c
}

// permutations are all orders of a list.
func permutations(list []int) [][]int {
	if len(list) == 0 {
		return [][]int{nil}
	}
	var all [][]int
	for i := range list {
		rest := slices.Delete(slices.Clone(list), i, i+1)
		for _, p := range permutations(rest) {
			all = append(all, append([]int{list[i]}, p...))
		}
	}
	return all
}

// cuts are all tables with the sounds of one order.
func cuts(order []int) [][][]int {
	var all [][][]int
	for bits := range 1 << (len(order) - 1) {
		t := [][]int{{order[0]}}
		for i, s := range order[1:] {
			if bits>>i&1 == 1 {
				t = append(t, nil)
			}
			t[len(t)-1] = append(t[len(t)-1], s)
		}
		all = append(all, t)
	}
	return all
}

// tables are all tables with just the given sounds.
func tables(sounds ...int) [][][]int {
	var all [][][]int
	for _, order := range permutations(sounds) {
		all = append(all, cuts(order)...)
	}
	return all
}

// badTables have an error each, with the one that Validate must name.
func badTables() map[api.Errno][][][]int {
	return map[api.Errno][][][]int{
		api.ErrLarge: {nil, {}, make([][]int, 7), {{0}, {1}, {2}, {3}, {4}, {5}, {5}}, {{9}, {9}, {}, {}, {}, {}, {}}},
		api.ErrArg:   {{{}}, {nil}, {{0}, {}}, {{-1}}, {{6}}, {{0, 1}, {2, 6}}, {{math.MinInt}}, {{math.MaxInt}}, {{0, 0}, {}}, {{0}, {0}, {-1}}, {{1, 1, 7}}},
		api.ErrTwice: {{{0, 0}}, {{0, 1}, {1}}, {{5}, {4}, {5}}, {{0, 1, 2, 3, 4, 5, 0}}},
	}
}

func TestValidate(t *testing.T) { // P1.1
	for _, x := range [][][]int{{{0}}, {{5}}, {{0, 1, 2, 3, 4, 5}}, {{5}, {4}, {3}, {2}, {1}, {0}}, {{3, 1}, {0, 4}}} {
		if e := sound.Validate(x); e != api.OK {
			t.Errorf("%v: %v", x, e)
		}
	}
	for want, list := range badTables() {
		for _, x := range list {
			if e := sound.Validate(x); e != want {
				t.Errorf("%v: %v, not %v", x, e, want)
			}
		}
	}
}

func TestErrorsOfTables(t *testing.T) { // P1.2, P1.4, P1.5 with R2 and R3
	for want, list := range badTables() {
		for _, x := range list {
			errors := make([]api.Errno, 9)
			var s, u []int
			var n, m []api.Name
			var c, d, j, r [][]int
			var row int
			var ok bool
			s, errors[0] = sound.Sounds(x)
			row, ok, errors[1] = sound.Row(x, 0)
			u, errors[2] = sound.Stand(x, api.Name{Sound: -1})
			n, errors[3] = sound.Names(x)
			m, errors[4] = sound.Named(x, []int{1, 0})
			c, errors[5] = sound.Classes(x)
			d, errors[6] = sound.Split(x, -1, -1)
			j, errors[7] = sound.Join(x, -1)
			r, errors[8] = sound.Rename(x, nil)
			for i, e := range errors {
				if e != want {
					t.Errorf("%d: %v: %v, not %v", i, x, e, want)
				}
			}
			if len(s)+len(u)+len(n)+len(m)+len(c)+len(d)+len(j)+len(r)+row > 0 || ok {
				t.Errorf("%v: a result is not zero", x)
			}
			if e := sound.CheckTable(3, nil, x); e != want {
				t.Errorf("CheckTable: %v: %v, not %v", x, e, want)
			}
		}
	}
}

func TestSoundsAndRow(t *testing.T) { // P1.2
	for _, x := range append(tables(5, 0, 3, 2), [][]int{{5}, {4}, {3}, {2}, {1}, {0}}) {
		var want []int
		for i, row := range x {
			want = append(want, row...)
			for _, s := range row {
				if n, ok, e := sound.Row(x, s); n != i || !ok || e != api.OK {
					t.Errorf("%v: Row %d: %d %v %v", x, s, n, ok, e)
				}
			}
		}
		got, e := sound.Sounds(x)
		if !slices.Equal(got, want) || e != api.OK {
			t.Errorf("%v: %v %v", x, got, e)
		}
		got[0] = 9
		if x[0][0] == 9 {
			t.Errorf("%v: Sounds shares its memory", x)
		}
	}
	for _, s := range []int{-1, 1, 3, 6, math.MinInt, math.MaxInt} {
		if n, ok, e := sound.Row([][]int{{2}, {0, 4}}, s); n != 0 || ok || e != api.OK {
			t.Errorf("Row %d: %d %v %v", s, n, ok, e)
		}
	}
}

func TestStand(t *testing.T) { // P1.2
	x := [][]int{{3, 1}, {0, 4}, {2}}
	for name, want := range map[api.Name][]int{
		{Sound: 3, Row: 0}: {1, 3},
		{Sound: 1, Row: 0}: {1},
		{Sound: 3, Row: 2}: {0, 1, 2, 3, 4},
		{Sound: 1, Row: 1}: {0, 1, 4},
		{Sound: 4, Row: 2}: {2, 4},
		{Sound: 2, Row: 2}: {2},
	} {
		if l, e := sound.Stand(x, name); !slices.Equal(l, want) || e != api.OK {
			t.Errorf("%v: %v %v", name, l, e)
		}
	}
	for _, name := range []api.Name{{Sound: 3, Row: -1}, {Sound: 3, Row: 3}, {Sound: 0, Row: 0}, {Sound: 2, Row: 1}, {Sound: 5, Row: 2}, {Sound: -1, Row: 0}, {Sound: 6, Row: 0}, {Sound: math.MinInt, Row: math.MaxInt}} {
		if l, e := sound.Stand(x, name); len(l) != 0 || e != api.ErrNone {
			t.Errorf("%v: %v %v", name, l, e)
		}
	}
	if !same(x, [][]int{{3, 1}, {0, 4}, {2}}) {
		t.Error("the table was changed:", x)
	}
}

// allNames tries every name that a table could have, in ascending order.
func allNames(x [][]int) []api.Name {
	var list []api.Name
	for s := range api.MaxSounds {
		for r := range api.MaxRows {
			if _, e := sound.Stand(x, api.Name{Sound: s, Row: r}); e == api.OK {
				list = append(list, api.Name{Sound: s, Row: r})
			}
		}
	}
	return list
}

func TestNamesAndClasses(t *testing.T) { // P1.2
	for _, x := range append(tables(4, 1, 0, 2), [][]int{{0, 1}, {2}}, [][]int{{5}, {4}, {3}, {2}, {1}, {0}}) {
		want := allNames(x)
		if l, e := sound.Names(x); !slices.Equal(l, want) || e != api.OK {
			t.Errorf("%v: Names %v %v", x, l, e)
		}
		var sets [][]int
		for _, name := range want {
			set, _ := sound.Stand(x, name)
			sets = append(sets, set)
			if l, e := sound.Named(x, set); !slices.Equal(l, []api.Name{name}) || e != api.OK {
				t.Errorf("%v: Named %v: %v %v", x, set, l, e)
			}
		}
		slices.SortFunc(sets, slices.Compare)
		if l, e := sound.Classes(x); !same(l, sets) || e != api.OK {
			t.Errorf("%v: Classes %v %v", x, l, e)
		}
		if len(slices.CompactFunc(sets, slices.Equal)) != len(want) {
			t.Errorf("%v: two names stand for one set", x)
		}
	}
}

func TestExampleTable(t *testing.T) { // P1.2, the chapter's example 1
	x := [][]int{{0, 1}, {2}}
	if l, _ := sound.Names(x); !slices.Equal(l, []api.Name{{Sound: 0, Row: 0}, {Sound: 0, Row: 1}, {Sound: 1, Row: 0}, {Sound: 1, Row: 1}, {Sound: 2, Row: 1}}) {
		t.Error(l)
	}
	if l, _ := sound.Classes(x); !same(l, [][]int{{0, 1}, {0, 1, 2}, {1}, {1, 2}, {2}}) {
		t.Error(l)
	}
}

func TestNamed(t *testing.T) { // P1.2
	x := [][]int{{0, 1}, {2}}
	for _, set := range [][]int{nil, {0}, {0, 2}, {3}, {0, 1, 2, 3, 4, 5}} {
		if l, e := sound.Named(x, set); len(l) != 0 || e != api.OK {
			t.Errorf("%v: %v %v", set, l, e)
		}
	}
	for _, set := range [][]int{{1, 0}, {1, 1}, {-1}, {6}, {1, 6}, {0, 1, 2, 3, 4, 5, 6}} {
		if l, e := sound.Named(x, set); len(l) != 0 || e != api.ErrArg {
			t.Errorf("%v: %v %v", set, l, e)
		}
	}
}
