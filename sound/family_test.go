package sound_test

import (
	"math"
	"slices"
	"testing"

	"vyakarana/api"
	"vyakarana/sound"
)

type family struct {
	n    int
	sets [][]int
}

// badFamilies have an error each, with the one that ValidateFamily must name.
func badFamilies() map[api.Errno][]family {
	return map[api.Errno][]family{
		api.ErrArg: {
			{0, nil}, {7, nil}, {-1, nil}, {math.MinInt, nil}, {math.MaxInt, nil}, {7, make([][]int, 7)},
			{2, [][]int{nil}}, {2, [][]int{{0}, {}}}, {2, [][]int{{1, 0}}}, {2, [][]int{{1, 1}}}, {2, [][]int{{2}}}, {2, [][]int{{-1}}}, {3, [][]int{{0}, {0, 1, 3}}},
		},
		api.ErrLarge: {{2, make([][]int, 7)}, {6, [][]int{{0}, {1}, {2}, {3}, {4}, {5}, {0}}}, {1, [][]int{{5}, {}, {}, {}, {}, {}, {}}}},
	}
}

// families are all families of at most most sets of n sounds, each set at most once, in any order.
func families(n, most int) []family {
	all := []family{{n, nil}}
	for from := 0; from < len(all); from++ {
		if len(all[from].sets) == most {
			continue
		}
		for bits := 1; bits < 1<<n; bits++ {
			var set []int
			for s := range n {
				if bits>>s&1 == 1 {
					set = append(set, s)
				}
			}
			if !slices.ContainsFunc(all[from].sets, func(x []int) bool { return slices.Equal(x, set) }) {
				all = append(all, family{n, append(copied(all[from].sets), set)})
			}
		}
	}
	return all
}

// someFamilies are all small families, and large ones.
func someFamilies() []family {
	list := slices.Concat(families(1, 1), families(2, 3), families(3, 3), families(4, 2))
	return append(list,
		family{6, nil},
		family{5, [][]int{{0, 1}, {0, 1}, {1, 2}}},
		family{6, [][]int{{0}, {1}, {2}, {3}, {4}, {5}}},
		family{6, [][]int{{0, 5}, {1, 5}, {1, 4}, {3, 4}, {2, 3}}},
		family{6, [][]int{{0, 5}, {1, 5}, {1, 4}, {3, 4}, {2, 3}, {0, 2}}},
		family{6, [][]int{{0, 1, 2}, {2, 3, 4}, {2, 5}}},
		family{6, [][]int{{5}, {3, 5}, {1, 3, 5}, {0, 1, 3, 5}}})
}

func numbers(n int) []int {
	var list []int
	for i := range n {
		list = append(list, i)
	}
	return list
}

// together says by the definition whether a set has no other sounds between its own.
func together(set, order []int) bool {
	for i := range order {
		if i+len(set) <= len(order) {
			part := slices.Clone(order[i : i+len(set)])
			slices.Sort(part)
			if slices.Equal(part, set) {
				return true
			}
		}
	}
	return false
}

func fitting(f family, order []int) bool {
	for _, set := range f.sets {
		if !together(set, order) {
			return false
		}
	}
	return true
}

// lasts counts the marks by the definition.
func lasts(f family, order []int) int {
	count := 0
	for i, s := range order {
		last := i == len(order)-1
		for _, set := range f.sets {
			later := slices.ContainsFunc(order[i+1:], func(x int) bool { return slices.Contains(set, x) })
			last = last || slices.Contains(set, s) && !later
		}
		if last {
			count++
		}
	}
	return count
}

func TestValidateFamily(t *testing.T) { // P1.1
	for _, f := range []family{{1, nil}, {6, [][]int{{0, 1, 2, 3, 4, 5}}}, {3, [][]int{{0, 1}, {2}}}, {2, [][]int{{0}, {0}, {0}, {0}, {0}, {0}}}} {
		if e := sound.ValidateFamily(f.n, f.sets); e != api.OK {
			t.Errorf("%v: %v", f, e)
		}
	}
	for want, list := range badFamilies() {
		for _, f := range list {
			if e := sound.ValidateFamily(f.n, f.sets); e != want {
				t.Errorf("%v: %v, not %v", f, e, want)
			}
		}
	}
}

func TestErrorsOfFamilies(t *testing.T) { // P1.3, P1.4 with R2 and R3
	for want, list := range badFamilies() {
		for _, f := range list {
			is, e0 := sound.Fits(f.n, f.sets, []int{-1})
			order, ok1, e1 := sound.Order(f.n, f.sets)
			marks, e2 := sound.Marks(f.n, f.sets, []int{-1})
			fewest, ok3, e3 := sound.Fewest(f.n, f.sets)
			table, ok4, e4 := sound.Table(f.n, f.sets)
			e5 := sound.CheckTable(f.n, f.sets, nil)
			for i, e := range []api.Errno{e0, e1, e2, e3, e4, e5} {
				if e != want {
					t.Errorf("%d: %v: %v, not %v", i, f, e, want)
				}
			}
			if is || ok1 || ok3 || ok4 || len(order)+marks+fewest+len(table) > 0 {
				t.Errorf("%v: a result is not zero", f)
			}
		}
	}
}

func TestErrorsOfOrders(t *testing.T) { // P1.3
	// No order at all, with a family that fits none: ErrArg comes before ErrRule.
	sets := [][]int{{0, 1}, {1, 2}, {0, 2}}
	for _, order := range [][]int{nil, {0, 1}, {0, 1, 2, 0}, {0, 1, 2, 3}, {0, 1, 1}, {1, 2, 3}, {-1, 0, 1}, {math.MinInt, math.MaxInt, 0}} {
		if is, e := sound.Fits(3, sets, order); is || e != api.ErrArg {
			t.Errorf("Fits %v: %v %v", order, is, e)
		}
		if n, e := sound.Marks(3, sets, order); n != 0 || e != api.ErrArg {
			t.Errorf("Marks %v: %v %v", order, n, e)
		}
	}
}

func TestFitsAndMarks(t *testing.T) { // P1.3
	for _, f := range someFamilies() {
		for _, order := range permutations(numbers(f.n)) {
			want := fitting(f, order)
			if is, e := sound.Fits(f.n, f.sets, order); is != want || e != api.OK {
				t.Fatalf("%v in %v: %v %v", f, order, is, e)
			}
			count, error := lasts(f, order), api.OK
			if !want {
				count, error = 0, api.ErrRule
			}
			if n, e := sound.Marks(f.n, f.sets, order); n != count || e != error {
				t.Fatalf("%v in %v: %d marks %v, not %d %v", f, order, n, e, count, error)
			}
		}
	}
}

func TestOrderAndFewest(t *testing.T) { // P1.3
	for _, f := range someFamilies() {
		var first []int
		fewest := 0
		for _, order := range permutations(numbers(f.n)) {
			if !fitting(f, order) {
				continue
			}
			if first == nil {
				first = order
			}
			if n := lasts(f, order); fewest == 0 || n < fewest {
				fewest = n
			}
		}
		if l, ok, e := sound.Order(f.n, f.sets); !slices.Equal(l, first) || ok != (first != nil) || e != api.OK {
			t.Fatalf("%v: Order %v %v %v, not %v", f, l, ok, e, first)
		}
		if n, ok, e := sound.Fewest(f.n, f.sets); n != fewest || ok != (first != nil) || e != api.OK {
			t.Fatalf("%v: Fewest %d %v %v, not %d", f, n, ok, e, fewest)
		}
	}
}

func TestExampleFamilies(t *testing.T) { // P1.3, the chapter's examples 2 and 3
	if l, ok, e := sound.Order(3, [][]int{{0, 1}, {1, 2}, {0, 2}}); len(l) != 0 || ok || e != api.OK {
		t.Error(l, ok, e)
	}
	sets := [][]int{{0}, {0, 1}}
	if l, ok, _ := sound.Order(2, sets); !slices.Equal(l, []int{0, 1}) || !ok {
		t.Error(l, ok)
	}
	if n, _ := sound.Marks(2, sets, []int{0, 1}); n != 2 {
		t.Error(n)
	}
	if n, _ := sound.Marks(2, sets, []int{1, 0}); n != 1 {
		t.Error(n)
	}
	if n, ok, _ := sound.Fewest(2, sets); n != 1 || !ok {
		t.Error(n, ok)
	}
}

func TestCheckTable(t *testing.T) { // P1.4
	x := [][]int{{0, 1}, {2}}
	for i, c := range []struct {
		n    int
		sets [][]int
		t    [][]int
		want api.Errno
	}{
		{3, nil, x, api.OK},
		{3, [][]int{{0, 1}, {0, 1, 2}, {1}, {1, 2}, {2}, {2}}, x, api.OK},
		{3, [][]int{{0}}, x, api.ErrProof},
		{3, [][]int{{2}, {0, 2}}, x, api.ErrProof},
		{3, [][]int{{0, 1}}, [][]int{{2}, {0, 1}}, api.OK},
		{3, [][]int{{0, 1}}, [][]int{{2, 0}, {1}}, api.OK},
		{3, [][]int{{0, 2}}, [][]int{{2, 0, 1}}, api.ErrProof},
		{2, nil, x, api.ErrFit},
		{4, nil, x, api.ErrFit},
		{3, nil, [][]int{{0, 1}, {3}}, api.ErrFit},
		{2, [][]int{{0}}, [][]int{{1, 2}}, api.ErrFit},
		{3, nil, [][]int{{0, 1}, {1}}, api.ErrTwice},
		{3, nil, [][]int{{0, 1}, {6}}, api.ErrArg},
		{3, nil, nil, api.ErrLarge},
		{3, [][]int{{3}}, nil, api.ErrArg},
	} {
		if e := sound.CheckTable(c.n, c.sets, c.t); e != c.want {
			t.Errorf("%d: %v, not %v", i, e, c.want)
		}
	}
}

// fewestRows goes through all tables of n sounds, and returns the fewest rows of one that has all sets of
// the family among its Classes; 0 if none has.
func fewestRows(f family, all [][][]int) int {
	fewest := 0
	for _, x := range all {
		classes, _ := sound.Classes(x)
		names := true
		for _, set := range f.sets {
			names = names && slices.ContainsFunc(classes, func(c []int) bool { return slices.Equal(c, set) })
		}
		if error := sound.CheckTable(f.n, f.sets, x); (error == api.OK) != names || error != api.OK && error != api.ErrProof {
			return -1
		}
		if names && (fewest == 0 || len(x) < fewest) {
			fewest = len(x)
		}
	}
	return fewest
}

func TestTable(t *testing.T) { // P1.4 and S1
	all := map[int][][][]int{}
	for _, f := range someFamilies() {
		x, ok, e := sound.Table(f.n, f.sets)
		_, has, _ := sound.Order(f.n, f.sets)
		fewest, _, _ := sound.Fewest(f.n, f.sets)
		if ok != has || len(x) != fewest || e != api.OK {
			t.Fatalf("%v: %v %v %v", f, x, ok, e)
		}
		if ok && sound.CheckTable(f.n, f.sets, x) != api.OK {
			t.Fatalf("%v: %v does not name it", f, x)
		}
		if again, _, _ := sound.Table(f.n, f.sets); !same(again, x) {
			t.Fatalf("%v: %v, then %v", f, x, again)
		}
		if f.n > 4 {
			continue
		}
		if all[f.n] == nil {
			all[f.n] = tables(numbers(f.n)...)
		}
		if n := fewestRows(f, all[f.n]); n != fewest {
			t.Fatalf("%v: a table has %d rows, Fewest is %d", f, n, fewest)
		}
	}
}

func TestTableRows(t *testing.T) { // P1.4 with R5
	sets := [][]int{{0}, {1}, {2}}
	x, _, _ := sound.Table(4, sets)
	checkRoom(t, x)
	if !same(sets, [][]int{{0}, {1}, {2}}) {
		t.Error("the family was changed:", sets)
	}
}
