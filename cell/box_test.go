package cell_test

import (
	"fmt"
	"slices"
	"testing"

	"vyakarana/api"
	"vyakarana/cell"
)

func TestHullAndIsBox(t *testing.T) { // P6.3
	d, count := dice(5), map[bool]int{}
	for _, sizes := range someSizes() {
		k := knownOf(mixed(&d, sizes, 4))
		for _, r := range k.someRegions(&d) {
			cells := shuffled(&d, k.list(r))
			hull, e := cell.Hull(k.p, cells)
			is, f := cell.IsBox(k.p, cells)
			if r == 0 {
				if len(hull) > 0 || e != api.ErrNone || is || f != api.OK {
					t.Fatalf("%v, no cells: %v %v, %v %v", sizes, hull, e, is, f)
				}
				continue
			}
			if want := k.hull(r); !slices.Equal(hull, want) || e != api.OK {
				t.Fatalf("%v: Hull of %v: %v %v, not %v", sizes, cells, hull, e, want)
			}
			_, box := k.specFor(r)
			if is != box || f != api.OK {
				t.Fatalf("%v: IsBox of %v: %v %v", sizes, cells, is, f)
			}
			count[is]++
		}
	}
	if count[true] < 200 || count[false] < 200 {
		t.Error("the cells do not show enough:", count)
	}
}

func TestHullOfSpecs(t *testing.T) { // P6.3: the consequence
	for _, sizes := range someSizes() {
		k := knownOf(made(sizes))
		for _, spec := range k.specs {
			cells := k.list(k.region(spec))
			if hull, e := cell.Hull(k.p, cells); !slices.Equal(hull, spec) || e != api.OK {
				t.Fatalf("%v: %v, not %v: %v", sizes, hull, spec, e)
			}
			if is, e := cell.IsBox(k.p, cells); !is || e != api.OK {
				t.Fatalf("%v: %v: %v %v", sizes, spec, is, e)
			}
			if count(k.region(spec)) < 2 {
				continue
			}
			// Without a cell, they are a box only if their hull holds for fewer cells, too.
			for i := range cells {
				fewer := slices.Delete(slices.Clone(cells), i, i+1)
				hull, _ := cell.Hull(k.p, fewer)
				if is, e := cell.IsBox(k.p, fewer); is != (count(k.region(hull)) == len(fewer)) || e != api.OK {
					t.Fatalf("%v: %v: %v %v", sizes, fewer, is, e)
				}
			}
		}
	}
}

func TestHullByHand(t *testing.T) { // P6.3, with the chapter's example
	for i, c := range []struct {
		sizes []int
		cells [][]int
		hull  []int
		is    bool
		want  api.Errno
	}{
		{sized(2, 2), [][]int{{0, 0}, {1, 0}}, sized(-1, 0), true, api.OK},
		{sized(2, 2), [][]int{{1, 0}, {0, 0}, {1, 0}, {1, 0}}, sized(-1, 0), true, api.OK},
		{sized(2, 2), [][]int{{0, 0}, {1, 1}}, sized(-1, -1), false, api.OK},
		{sized(3, 2), [][]int{{0, 0}, {1, 0}}, sized(-1, 0), false, api.OK},
		{sized(3, 2), [][]int{{2, 0}, {1, 0}, {0, 0}}, sized(-1, 0), true, api.OK},
		{sized(3, 2), [][]int{{0, 0}, {1, 0}, {0, 0}}, sized(-1, 0), false, api.OK},
		{sized(3, 2), [][]int{{0, 0}, {1, 0}, {0, 0}, {1, 0}}, sized(-1, 0), false, api.OK},
		// A number that comes again behind another one is not the only one.
		{sized(3), [][]int{{1}, {2}, {1}}, sized(-1), false, api.OK},
		{sized(3), [][]int{{1}, {2}, {0}, {1}}, sized(-1), true, api.OK},
		{sized(3), [][]int{{2}, {2}}, sized(2), true, api.OK},
		{sized(3, 3, 3), [][]int{{2, 1, 0}}, sized(2, 1, 0), true, api.OK},
		{sized(3, 3, 3), slices.Repeat([][]int{{2, 1, 0}}, 400), sized(2, 1, 0), true, api.OK},
		{sized(3, 3, 3), nil, nil, false, api.ErrNone},
		{sized(2), [][]int{}, nil, false, api.ErrNone},
	} {
		p := made(c.sizes)
		if hull, e := cell.Hull(p, c.cells); !slices.Equal(hull, c.hull) || e != c.want {
			t.Errorf("%d: Hull: %v %v", i, hull, e)
		}
		if is, e := cell.IsBox(p, c.cells); is != c.is || e != api.OK {
			t.Errorf("%d: IsBox: %v %v", i, is, e)
		}
	}
}

func TestMeet(t *testing.T) { // P6.3
	count := map[bool]int{}
	for _, k := range someParadigms() {
		for i, a := range k.regions {
			for j, b := range k.regions {
				want, has := k.specFor(a & b)
				if spec, ok, e := cell.Meet(k.p, i, j); !slices.Equal(spec, want) || ok != has || e != api.OK {
					t.Fatalf("%v, %d, %d: %v %v %v, not %v", k.p, i, j, spec, ok, e, want)
				}
				count[has]++
			}
		}
	}
	if count[true] < 1000 || count[false] < 1000 {
		t.Error("the paradigms do not show enough:", count)
	}
	for i, c := range []struct {
		a, b, want []int
		ok         bool
	}{
		{sized(-1, -1), sized(-1, -1), sized(-1, -1), true},
		{sized(0, -1), sized(-1, 2), sized(0, 2), true},
		{sized(-1, 2), sized(0, -1), sized(0, 2), true},
		{sized(1, 2), sized(-1, -1), sized(1, 2), true},
		{sized(1, -1), sized(1, -1), sized(1, -1), true},
		{sized(1, -1), sized(0, -1), nil, false},
		{sized(-1, 2), sized(0, 1), nil, false},
		{sized(1, 2), sized(1, 0), nil, false},
	} {
		p := made(sized(2, 3), entry(0, c.a...), entry(0, c.b...))
		if spec, ok, e := cell.Meet(p, 0, 1); !slices.Equal(spec, c.want) || ok != c.ok || e != api.OK {
			t.Errorf("%d: %v %v %v", i, spec, ok, e)
		}
		if spec, ok, e := cell.Meet(p, 0, 0); !slices.Equal(spec, c.a) || !ok || e != api.OK {
			t.Errorf("%d: %v %v %v", i, spec, ok, e)
		}
	}
}

func TestMemoryOfBoxes(t *testing.T) { // R5
	p := roomyParadigm(made(sized(2, 3), entry(0, -1, -1), entry(1, 1, -1), entry(2, -1, 2), entry(3, 1, 2)))
	cells := roomyCells([][]int{{1, 1}, {0, 1}, {1, 0}, {0, 0}})
	before := fmt.Sprint(room(p), roomOf(cells))
	for i, c := range []func() ([]int, bool){
		func() ([]int, bool) { l, e := cell.Hull(p, cells); return l, e == api.OK },
		func() ([]int, bool) { l, e := cell.Hull(p, cells[:1]); return l, e == api.OK },
		func() ([]int, bool) { l, ok, _ := cell.Meet(p, 1, 2); return l, ok },
		func() ([]int, bool) { l, ok, _ := cell.Meet(p, 3, 3); return l, ok },
		func() ([]int, bool) { l, ok, _ := cell.Meet(p, 0, 0); return l, ok },
		func() ([]int, bool) { _, e := cell.IsBox(p, cells); return nil, e == api.OK },
	} {
		list, ok := c()
		if !ok {
			t.Error("nothing was found:", i)
		}
		spoil(list)
		if fmt.Sprint(room(p), roomOf(cells)) != before {
			t.Fatal("an argument was changed:", i, p, cells)
		}
	}
}
