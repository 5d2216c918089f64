package cell_test

import (
	"fmt"
	"math"
	"slices"
	"testing"

	"vyakarana/api"
	"vyakarana/cell"
)

func TestValidate(t *testing.T) { // P6.1
	for i, c := range badParadigms() {
		if e := cell.Validate(c.value); e != c.want {
			t.Errorf("%d: %v: %v, not %v", i, c.value, e, c.want)
		}
	}
	for _, k := range someParadigms() {
		if e := cell.Validate(k.p); e != api.OK {
			t.Errorf("%v: %v", k.p, e)
		}
	}
	ten := made(sized(3, 2, 3))
	for i := range 10 {
		ten.Entries = append(ten.Entries, entry(i, i%4-1, i%3-1, 2-i%4))
	}
	alike := made(sized(2), slices.Repeat([]api.Entry{entry(9, -1)}, 10)...)
	for i, p := range []api.Paradigm{ten, alike, made(sized(2)), made(sized(3)), made(sized(3, 3, 3), entry(9, 2, 2, 2)), {Sizes: sized(2), Entries: []api.Entry{}}} {
		if e := cell.Validate(p); e != api.OK {
			t.Errorf("%d: %v", i, e)
		}
	}
}

// refusal returns a function that checks that a call was refused with an error, and that all else is zero.
func refusal(t *testing.T, want api.Errno, about ...any) func(name string, e api.Errno, zero bool) {
	return func(name string, e api.Errno, zero bool) {
		t.Helper()
		if e != want || !zero {
			t.Errorf("%s: %v, not %v, all else zero: %v: %v", name, e, want, zero, about)
		}
	}
}

// errorsOfCells calls all functions of a paradigm and a cell or cells.
func errorsOfCells(t *testing.T, p api.Paradigm, c []int, cells [][]int, want api.Errno) {
	t.Helper()
	check := refusal(t, want, p, c, cells)
	list, e := cell.Matches(p, c)
	check("Matches", e, len(list) == 0)
	i, ok, e := cell.Decides(p, c)
	check("Decides", e, i == 0 && !ok)
	i, ok, e = cell.Form(p, c)
	check("Form", e, i == 0 && !ok)
	list, e = cell.Hull(p, cells)
	check("Hull", e, len(list) == 0)
	ok, e = cell.IsBox(p, cells)
	check("IsBox", e, !ok)
}

// errorsOfNumbers calls all functions of a paradigm and numbers of entries; those of one number are called with i.
func errorsOfNumbers(t *testing.T, p api.Paradigm, i, j int, want, wantOfI api.Errno) {
	t.Helper()
	check := refusal(t, want, p, i, j)
	is, e := cell.IsMore(p, i, j)
	check("IsMore", e, !is)
	list, ok, e := cell.Meet(p, i, j)
	check("Meet", e, len(list) == 0 && !ok)
	q, e := cell.Swap(p, i, j)
	check("Swap", e, isZero(q))
	if wantOfI != api.OK {
		check = refusal(t, wantOfI, p, i)
		q, e = cell.Without(p, i)
		check("Without", e, isZero(q))
	}
}

// errorsOfOne calls all functions of a paradigm alone.
func errorsOfOne(t *testing.T, p api.Paradigm, want api.Errno) {
	t.Helper()
	check := refusal(t, want, p)
	for _, c := range []struct {
		name string
		call func(api.Paradigm) ([][]int, api.Errno)
	}{{"Cells", cell.Cells}, {"Clashes", cell.Clashes}, {"Empty", cell.Empty}} {
		list, e := c.call(p)
		check(c.name, e, len(list) == 0)
	}
	list, e := cell.Fill(p)
	check("Fill", e, len(list) == 0)
	is, e := cell.IsFull(p)
	check("IsFull", e, !is)
	list, e = cell.Needless(p)
	check("Needless", e, len(list) == 0)
	q, e := cell.Reduce(p)
	check("Reduce", e, isZero(q))
	for _, form := range []int{0, 9, -1, 10} {
		homes, e := cell.Homes(p, form)
		check("Homes", e, len(homes) == 0)
	}
	for _, x := range []api.Entry{entry(0, -1), entry(0, -1, -1, -1), {}, entry(10, 5)} {
		q, e = cell.Add(p, x)
		check("Add", e, isZero(q))
	}
}

func TestErrorsOfParadigms(t *testing.T) { // P6.1, R2, R3
	for _, c := range badParadigms() {
		errorsOfOne(t, c.value, c.want)
		for _, w := range [][]int{nil, {0}, {9}, {0, 0}, make([]int, 9)} {
			errorsOfCells(t, c.value, w, nil, c.want)
			errorsOfCells(t, c.value, w, [][]int{w, {0}}, c.want)
		}
		for _, i := range []int{0, -1, 400} {
			errorsOfNumbers(t, c.value, i, 0, c.want, c.want)
			errorsOfNumbers(t, c.value, 0, i, c.want, c.want)
		}
		// Errors of both paradigms come before ErrFit, those of the first one in front.
		check := refusal(t, c.want, "Same", c.value)
		for _, d := range badParadigms() {
			is, e := cell.Same(c.value, d.value)
			check("Same", e, !is)
		}
		for _, p := range []api.Paradigm{clashing(), made(sized(2)), made(sized(3, 3, 3))} {
			is, e := cell.Same(c.value, p)
			check("Same", e, !is)
			is, e = cell.Same(p, c.value)
			check("Same", e, !is)
		}
	}
}

func TestErrorsOfCells(t *testing.T) { // P6.1, R1, R3
	for _, p := range []api.Paradigm{clashing(), full(), made(sized(2, 3)), made(sized(3, 2, 2), entry(0, -1, -1, -1)), made(sized(3, 3, 3))} {
		good := make([]int, len(p.Sizes))
		for _, bad := range badCells(p.Sizes) {
			for _, list := range [][][]int{{bad}, {bad, good}, {good, good, good, bad}, {good, bad, good}} {
				errorsOfCells(t, p, bad, list, api.ErrArg)
			}
		}
		for _, form := range []int{-1, 10, 400, math.MinInt, math.MaxInt} {
			if list, e := cell.Homes(p, form); len(list) > 0 || e != api.ErrArg {
				t.Errorf("%v: Homes of %d: %v %v", p, form, list, e)
			}
		}
	}
}

func TestErrorsOfNumbers(t *testing.T) { // P6.1, R3
	for _, p := range []api.Paradigm{clashing(), full(), made(sized(2)), made(sized(3, 3, 3), entry(0, -1, -1, -1))} {
		n := len(p.Entries)
		for _, i := range []int{-1, n, n + 1, math.MinInt, math.MaxInt} {
			for j := range n {
				errorsOfNumbers(t, p, i, j, api.ErrNone, api.ErrNone)
				errorsOfNumbers(t, p, j, i, api.ErrNone, api.OK)
			}
			errorsOfNumbers(t, p, i, i, api.ErrNone, api.ErrNone)
		}
	}
}

func TestCells(t *testing.T) { // P6.2
	for _, c := range []struct{ sizes, first, last []int }{
		{sized(2), sized(0), sized(1)}, {sized(3), sized(0), sized(2)}, {sized(2, 3), sized(0, 0), sized(1, 2)}, {sized(3, 2, 3), sized(0, 0, 0), sized(2, 1, 2)},
	} {
		list, e := cell.Cells(made(c.sizes))
		if e != api.OK || !slices.Equal(list[0], c.first) || !slices.Equal(list[len(list)-1], c.last) {
			t.Errorf("%v: %v %v", c.sizes, list, e)
		}
	}
	if list, e := cell.Cells(made(sized(2, 3))); !same(list, [][]int{{0, 0}, {0, 1}, {0, 2}, {1, 0}, {1, 1}, {1, 2}}) || e != api.OK {
		t.Error(list, e)
	}
	for _, k := range someParadigms() {
		list, e := cell.Cells(k.p)
		if !same(list, k.cells) || e != api.OK || !slices.IsSortedFunc(list, slices.Compare) {
			t.Fatalf("%v: %v %v", k.p, list, e)
		}
	}
}

func TestMatches(t *testing.T) { // P6.2
	for _, k := range someParadigms() {
		for c, at := range k.cells {
			if list, e := cell.Matches(k.p, at); !slices.Equal(list, k.matches(c)) || e != api.OK {
				t.Fatalf("%v, %v: %v %v", k.p, at, list, e)
			}
		}
	}
	p := made(sized(2, 3), entry(0, -1, 2), entry(0, 0, 2), entry(0, 1, 2), entry(0, -1, -1), entry(0, 1, -1))
	if list, e := cell.Matches(p, sized(1, 2)); !slices.Equal(list, sized(0, 2, 3, 4)) || e != api.OK {
		t.Error(list, e)
	}
}

func TestIsMore(t *testing.T) { // P6.2
	more := 0
	for _, k := range someParadigms() {
		for i := range k.regions {
			for j := range k.regions {
				is, e := cell.IsMore(k.p, i, j)
				if is != k.isMore(i, j) || e != api.OK {
					t.Fatalf("%v, %d, %d: %v %v", k.p, i, j, is, e)
				}
				if is {
					more++
				}
			}
		}
	}
	if more < 1000 {
		t.Error("the paradigms do not show enough:", more)
	}
	for i, c := range []struct {
		a, b []int
		want bool
	}{
		{sized(0, -1), sized(-1, -1), true}, {sized(-1, -1), sized(0, -1), false}, {sized(0, 0), sized(0, -1), true}, {sized(0, 0), sized(-1, 0), true}, {sized(0, 0), sized(-1, -1), true},
		{sized(0, 0), sized(1, -1), false}, {sized(0, -1), sized(-1, 0), false}, {sized(0, 1), sized(0, 1), false}, {sized(-1, -1), sized(-1, -1), false}, {sized(0, 1), sized(1, 1), false},
	} {
		if is, e := cell.IsMore(made(sized(2, 2), entry(0, c.a...), entry(0, c.b...)), 0, 1); is != c.want || e != api.OK {
			t.Errorf("%d: %v %v", i, is, e)
		}
	}
}

func TestDecidesAndForm(t *testing.T) { // P6.2
	count := map[bool]int{}
	for _, k := range someParadigms() {
		for c, at := range k.cells {
			want, has, form := k.decides(c), true, 0
			if want < 0 {
				want, has = 0, false
			} else {
				form = k.p.Entries[want].Form
			}
			count[has]++
			if i, ok, e := cell.Decides(k.p, at); i != want || ok != has || e != api.OK {
				t.Fatalf("%v, %v: %d %v %v, not %d %v", k.p, at, i, ok, e, want, has)
			}
			if f, ok, e := cell.Form(k.p, at); f != form || ok != has || e != api.OK {
				t.Fatalf("%v, %v: %d %v %v, not %d %v", k.p, at, f, ok, e, form, has)
			}
		}
	}
	if count[true] < 1000 || count[false] < 1000 {
		t.Error("the paradigms do not show enough:", count)
	}
}

func TestDecidesByHand(t *testing.T) { // P6.2
	all, row, column, one := entry(4, -1, -1), entry(5, 1, -1), entry(6, -1, 1), entry(7, 1, 1)
	for i, c := range []struct {
		entries []api.Entry
		number  int
		ok      bool
	}{
		{nil, 0, false},
		{[]api.Entry{entry(0, 0, 1)}, 0, false},
		{[]api.Entry{all}, 0, true},
		{[]api.Entry{all, row}, 1, true},
		{[]api.Entry{row, all}, 0, true},
		{[]api.Entry{row, column}, 0, false},
		{[]api.Entry{row, column, all}, 0, false},
		{[]api.Entry{row, one, column, all}, 1, true},
		// Two entries with the same spec never decide, but a more special one may.
		{[]api.Entry{one, one}, 0, false},
		{[]api.Entry{one, all, one}, 0, false},
		{[]api.Entry{one, entry(8, 1, 1)}, 0, false},
		{[]api.Entry{all, all, row}, 2, true},
		{[]api.Entry{all, row, all, row, one}, 4, true},
		{[]api.Entry{one, entry(9, 0, 1), entry(9, 0, 1), entry(9, 1, 0)}, 0, true},
	} {
		p := made(sized(2, 2), c.entries...)
		if number, ok, e := cell.Decides(p, sized(1, 1)); number != c.number || ok != c.ok || e != api.OK {
			t.Errorf("%d: Decides: %d %v %v", i, number, ok, e)
		}
		form := 0
		if c.ok {
			form = c.entries[c.number].Form
		}
		if f, ok, e := cell.Form(p, sized(1, 1)); f != form || ok != c.ok || e != api.OK {
			t.Errorf("%d: Form: %d %v %v", i, f, ok, e)
		}
	}
}

// checkFill checks what is told about all cells, against the forms of the cells.
func checkFill(t *testing.T, k known) (full bool) {
	t.Helper()
	forms := k.fill()
	if list, e := cell.Fill(k.p); !slices.Equal(list, forms) || e != api.OK {
		t.Fatalf("Fill of %v: %v %v, not %v", k.p, list, e, forms)
	}
	where := func(is func(c int) bool) [][]int {
		var r region
		for c := range k.cells {
			if is(c) {
				r |= 1 << c
			}
		}
		return k.list(r)
	}
	clashes := where(func(c int) bool { return len(k.matches(c)) > 0 && k.decides(c) < 0 })
	if list, e := cell.Clashes(k.p); !same(list, clashes) || e != api.OK {
		t.Fatalf("Clashes of %v: %v %v, not %v", k.p, list, e, clashes)
	}
	empty := where(func(c int) bool { return len(k.matches(c)) == 0 })
	if list, e := cell.Empty(k.p); !same(list, empty) || e != api.OK {
		t.Fatalf("Empty of %v: %v %v, not %v", k.p, list, e, empty)
	}
	full = len(clashes)+len(empty) == 0
	if is, e := cell.IsFull(k.p); is != full || e != api.OK {
		t.Fatalf("IsFull of %v: %v %v", k.p, is, e)
	}
	for form := range 10 {
		homes := where(func(c int) bool { return forms[c] == form })
		if list, e := cell.Homes(k.p, form); !same(list, homes) || e != api.OK {
			t.Fatalf("Homes of %d in %v: %v %v, not %v", form, k.p, list, e, homes)
		}
	}
	return full
}

func TestFill(t *testing.T) { // P6.2: Fill, Clashes, Empty, IsFull, Homes
	count := map[bool]int{}
	for _, k := range someParadigms() {
		count[checkFill(t, k)]++
	}
	if count[true] < 50 || count[false] < 50 {
		t.Error("the paradigms do not show enough:", count)
	}
}

func TestFillByHand(t *testing.T) { // P6.2, with the chapter's examples
	ninth := made(sized(3), entry(9, 2), entry(0, 0))
	for i, c := range []struct {
		p              api.Paradigm
		forms          []int
		clashes, empty [][]int
		full           bool
	}{
		{clashing(), sized(0, 2, 1, -1), [][]int{{1, 1}}, nil, false},
		{full(), sized(0, 2, 1, 3), nil, nil, true},
		{made(sized(2)), sized(-1, -1), nil, [][]int{{0}, {1}}, false},
		{ninth, sized(0, -1, 9), nil, [][]int{{1}}, false},
		{made(sized(2), entry(3, 0), entry(3, 0)), sized(-1, -1), [][]int{{0}}, [][]int{{1}}, false},
		{made(sized(2), entry(3, 0), entry(3, 0), entry(4, 1)), sized(-1, 4), [][]int{{0}}, nil, false},
	} {
		if list, e := cell.Fill(c.p); !slices.Equal(list, c.forms) || e != api.OK {
			t.Errorf("%d: Fill: %v %v", i, list, e)
		}
		if list, e := cell.Clashes(c.p); !same(list, c.clashes) || e != api.OK {
			t.Errorf("%d: Clashes: %v %v", i, list, e)
		}
		if list, e := cell.Empty(c.p); !same(list, c.empty) || e != api.OK {
			t.Errorf("%d: Empty: %v %v", i, list, e)
		}
		if is, e := cell.IsFull(c.p); is != c.full || e != api.OK {
			t.Errorf("%d: IsFull: %v %v", i, is, e)
		}
	}
	for form, want := range map[int][][]int{0: {{0}}, 9: {{2}}, 5: nil} {
		if list, e := cell.Homes(ninth, form); !same(list, want) || e != api.OK {
			t.Errorf("Homes of %d: %v %v", form, list, e)
		}
	}
}

func TestOrderOfEntries(t *testing.T) { // S6
	d := dice(3)
	for _, k := range someParadigms() {
		p := k.p
		for range 2 * len(p.Entries) {
			p, _ = cell.Swap(p, d.below(len(p.Entries)), d.below(len(p.Entries)))
		}
		forms, e := cell.Fill(p)
		if !slices.Equal(forms, k.fill()) || e != api.OK {
			t.Fatalf("%v in the order of %v: %v %v", k.p, p, forms, e)
		}
	}
}

func TestMemoryOfCells(t *testing.T) { // R5
	p := roomyParadigm(clashing())
	p.Entries = append(p.Entries, entry(5, roomy(0, 1)...), entry(5, roomy(0, 1)...))
	before := fmt.Sprint(room(p))
	at := roomy(1, 0)
	for i := range 6 {
		var lists [][]int
		switch i {
		case 0:
			lists, _ = cell.Cells(p)
		case 1:
			lists, _ = cell.Clashes(p)
		case 2:
			lists, _ = cell.Empty(made(p.Sizes, p.Entries[3:4]...))
		case 3:
			lists, _ = cell.Homes(p, 0)
			more, _ := cell.Homes(made(p.Sizes, p.Entries[0]), 0)
			lists = append(lists, more...)
		case 4:
			list, _ := cell.Matches(p, at)
			lists = [][]int{list}
		case 5:
			list, _ := cell.Fill(p)
			lists = [][]int{list}
		}
		if len(lists) == 0 || len(lists[0]) == 0 {
			t.Error("nothing was listed:", i)
		}
		if spoilAll(lists...) {
			t.Error("lists of one result share memory:", i)
		}
		if fmt.Sprint(room(p)) != before || !slices.Equal(at[:cap(at)], roomy(1, 0)[:cap(at)]) {
			t.Fatal("an argument was changed:", i, p, at)
		}
	}
}
