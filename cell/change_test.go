package cell_test

import (
	"fmt"
	"slices"
	"testing"

	"vyakarana/api"
	"vyakarana/cell"
)

func TestNeedless(t *testing.T) { // P6.4
	count := 0
	for _, k := range someParadigms() {
		var want []int
		for i := range k.p.Entries {
			if slices.Equal(k.without(i).fill(), k.fill()) {
				want = append(want, i)
			}
		}
		if list, e := cell.Needless(k.p); !slices.Equal(list, want) || e != api.OK {
			t.Fatalf("%v: %v %v, not %v", k.p, list, e, want)
		}
		count += len(want)
	}
	if count < 300 {
		t.Error("the paradigms do not show enough:", count)
	}
}

func TestReduce(t *testing.T) { // P6.4
	fewer := 0
	for _, k := range someParadigms() {
		var out []int
		for i := len(k.p.Entries) - 1; i >= 0; i-- {
			if slices.Equal(k.without(append(slices.Clone(out), i)...).fill(), k.fill()) {
				out = append(out, i)
			}
		}
		want := k.without(out...)
		p, e := cell.Reduce(k.p)
		if !sameParadigm(p, want.p) || e != api.OK {
			t.Fatalf("%v: %v %v, not %v", k.p, p, e, want.p)
		}
		if is, e := cell.Same(k.p, p); !is || e != api.OK {
			t.Fatalf("%v: not the same as %v: %v", k.p, p, e)
		}
		fewer += len(out)
	}
	if fewer < 300 {
		t.Error("the paradigms do not show enough:", fewer)
	}
}

func TestNeedlessByHand(t *testing.T) { // P6.4
	all, row, column, one := entry(0, -1, -1), entry(1, 1, -1), entry(2, -1, 1), entry(3, 1, 1)
	for i, c := range []struct {
		entries  []api.Entry
		needless []int
		reduced  []api.Entry
	}{
		{nil, nil, nil},
		{[]api.Entry{all}, nil, []api.Entry{all}},
		{[]api.Entry{all, row, column}, nil, []api.Entry{all, row, column}},
		{[]api.Entry{all, row, column, one}, nil, []api.Entry{all, row, column, one}},
		// Each of three with one spec is needless by itself: the other two do not decide either. Of two, none is.
		{[]api.Entry{all, all}, nil, []api.Entry{all, all}},
		{[]api.Entry{all, all, all}, sized(0, 1, 2), []api.Entry{all, all}},
		// Two special entries with the form that is there anyway.
		{[]api.Entry{all, entry(0, 1, -1)}, sized(1), []api.Entry{all}},
		{[]api.Entry{entry(0, 1, -1), all}, sized(0), []api.Entry{all}},
		// A row and a column, or the cells: either way is enough, and the last ones go.
		{[]api.Entry{entry(1, 1, -1), entry(1, 1, 0), entry(1, 1, 1)}, sized(0, 1, 2), []api.Entry{entry(1, 1, -1)}},
		{[]api.Entry{entry(1, 1, 0), entry(1, 1, 1), entry(1, 1, -1)}, sized(0, 1, 2), []api.Entry{entry(1, 1, 0), entry(1, 1, 1)}},
		// A clash that is there with one entry less, too.
		{[]api.Entry{row, column, row}, nil, []api.Entry{row, column, row}},
		{[]api.Entry{all, entry(4, 0, 0), entry(4, 0, 1), entry(4, 1, 0), entry(4, 1, 1)}, sized(0), []api.Entry{entry(4, 0, 0), entry(4, 0, 1), entry(4, 1, 0), entry(4, 1, 1)}},
		// The entry 4 is examined while it is of use, and stays, though it is of none in the end.
		{
			[]api.Entry{entry(0, 1, 1), entry(1, 1, -1), entry(1, 1, -1), entry(1, -1, 0), entry(1, 1, 0), entry(0, -1, 1)}, sized(1, 2),
			[]api.Entry{entry(1, -1, 0), entry(1, 1, 0), entry(0, -1, 1)},
		},
	} {
		p := made(sized(2, 2), c.entries...)
		if list, e := cell.Needless(p); !slices.Equal(list, c.needless) || e != api.OK {
			t.Errorf("%d: Needless: %v %v", i, list, e)
		}
		if r, e := cell.Reduce(p); !sameParadigm(r, made(sized(2, 2), c.reduced...)) || e != api.OK {
			t.Errorf("%d: Reduce: %v %v", i, r, e)
		}
	}
}

func TestSame(t *testing.T) { // P6.4
	list, count := someParadigms(), map[bool]int{}
	for i, k := range list {
		for j := range 30 {
			l := list[(i+j)%len(list)]
			is, e := cell.Same(k.p, l.p)
			if !slices.Equal(k.p.Sizes, l.p.Sizes) {
				if is || e != api.ErrFit {
					t.Fatalf("%v, %v: %v %v", k.p, l.p, is, e)
				}
				continue
			}
			if is != slices.Equal(k.fill(), l.fill()) || e != api.OK {
				t.Fatalf("%v, %v: %v %v", k.p, l.p, is, e)
			}
			count[is]++
		}
	}
	if count[true] < 500 || count[false] < 500 {
		t.Error("the paradigms do not show enough:", count)
	}
	for i, c := range []struct {
		p, q api.Paradigm
		is   bool
		want api.Errno
	}{
		{clashing(), full(), false, api.OK},
		{full(), full(), true, api.OK},
		// A cell that clashes and one that is empty are alike without a form.
		{made(sized(2), entry(0, 0), entry(1, 0)), made(sized(2)), true, api.OK},
		{made(sized(2), entry(0, -1)), made(sized(2), entry(0, 1), entry(0, 0)), true, api.OK},
		{made(sized(2), entry(0, -1)), made(sized(2), entry(1, -1)), false, api.OK},
		// Sizes differ, though as many cells have the same forms.
		{made(sized(2, 3), entry(0, -1, -1)), made(sized(3, 2), entry(0, -1, -1)), false, api.ErrFit},
		{made(sized(2), entry(0, -1)), made(sized(2, 2), entry(0, -1, -1)), false, api.ErrFit},
		{made(sized(2)), made(sized(3)), false, api.ErrFit},
	} {
		if is, e := cell.Same(c.p, c.q); is != c.is || e != c.want {
			t.Errorf("%d: %v %v", i, is, e)
		}
	}
}

func TestSwap(t *testing.T) { // P6.4, P6.2: Swap changes no form
	for _, k := range someParadigms() {
		for i := range k.p.Entries {
			for j := range k.p.Entries {
				want := made(k.p.Sizes, slices.Clone(k.p.Entries)...)
				want.Entries[i], want.Entries[j] = k.p.Entries[j], k.p.Entries[i]
				p, e := cell.Swap(k.p, i, j)
				if !sameParadigm(p, want) || e != api.OK {
					t.Fatalf("%v, %d, %d: %v %v", k.p, i, j, p, e)
				}
				if is, e := cell.Same(k.p, p); !is || e != api.OK {
					t.Fatalf("%v, %d, %d: another form in %v: %v", k.p, i, j, p, e)
				}
			}
		}
	}
}

func TestAdd(t *testing.T) { // P6.4
	nine := made(sized(2, 3), slices.Repeat([]api.Entry{entry(4, -1, 2)}, 9)...)
	ten := made(sized(2, 3), slices.Repeat([]api.Entry{entry(4, -1, 2)}, 10)...)
	for i, c := range []struct {
		p    api.Paradigm
		e    api.Entry
		want api.Errno
	}{
		{made(sized(2, 3)), entry(9, 1, 2), api.OK},
		{made(sized(2, 3), entry(0, -1, -1)), entry(0, -1, -1), api.OK},
		{nine, entry(0, 0, 0), api.OK},
		{ten, entry(0, 0, 0), api.ErrLarge},
		// Too many entries are named before one that is not right.
		{ten, entry(10, 0, 0), api.ErrLarge},
		{ten, api.Entry{}, api.ErrLarge},
		{nine, api.Entry{}, api.ErrArg},
		{nine, entry(10, 0, 0), api.ErrArg},
		{nine, entry(-1, 0, 0), api.ErrArg},
		{nine, entry(0, 2, 0), api.ErrArg},
		{nine, entry(0, 0, 3), api.ErrArg},
		{nine, entry(0, 0, -2), api.ErrArg},
		{nine, entry(0, 0), api.ErrArg},
		{nine, entry(0, 0, 0, 0), api.ErrArg},
		// An entry that is there already and not right is named before too many.
		{made(sized(2, 3), append(slices.Clone(nine.Entries), entry(0, 0))...), entry(0, 0, 0), api.ErrArg},
		{made(sized(2, 3), append(slices.Clone(ten.Entries), entry(0, 0))...), entry(0, 0), api.ErrLarge},
	} {
		want := api.Paradigm{}
		if c.want == api.OK {
			want = made(c.p.Sizes, append(slices.Clone(c.p.Entries), c.e)...)
		}
		if p, e := cell.Add(c.p, c.e); !sameParadigm(p, want) || e != c.want {
			t.Errorf("%d: %v %v", i, p, e)
		}
	}
}

func TestWithout(t *testing.T) { // P6.4
	for _, k := range someParadigms() {
		for i := range k.p.Entries {
			if p, e := cell.Without(k.p, i); !sameParadigm(p, k.without(i).p) || e != api.OK {
				t.Fatalf("%v, %d: %v %v", k.p, i, p, e)
			}
		}
		if len(k.p.Entries) == 10 {
			continue
		}
		x := entry(9, make([]int, len(k.p.Sizes))...)
		p, e := cell.Add(k.p, x)
		if want := made(k.p.Sizes, append(slices.Clone(k.p.Entries), x)...); !sameParadigm(p, want) || e != api.OK {
			t.Fatalf("%v: %v %v", k.p, p, e)
		}
		if p, e := cell.Without(p, len(k.p.Entries)); !sameParadigm(p, k.p) || e != api.OK {
			t.Fatalf("%v: %v %v", k.p, p, e)
		}
	}
}

func TestMemoryOfChanges(t *testing.T) { // R5
	p := roomyParadigm(made(sized(2, 2), entry(0, -1, -1), entry(0, 1, -1), entry(2, -1, 1), entry(3, 1, 1)))
	q := roomyParadigm(full())
	// Two entries have one spec in memory, as arguments may have.
	q.Entries = append(q.Entries, api.Entry{Spec: q.Entries[0].Spec, Form: 9})
	x := entry(4, roomy(0, 0)...)
	before := fmt.Sprint(room(p), room(q), x.Spec[:cap(x.Spec)])
	for i, c := range []func() (api.Paradigm, api.Errno){
		func() (api.Paradigm, api.Errno) { return cell.Reduce(p) },
		func() (api.Paradigm, api.Errno) { return cell.Reduce(q) },
		func() (api.Paradigm, api.Errno) { return cell.Swap(p, 0, 3) },
		func() (api.Paradigm, api.Errno) { return cell.Swap(q, 1, 1) },
		func() (api.Paradigm, api.Errno) { return cell.Add(p, x) },
		func() (api.Paradigm, api.Errno) { return cell.Add(q, q.Entries[1]) },
		func() (api.Paradigm, api.Errno) { return cell.Without(p, 3) },
		func() (api.Paradigm, api.Errno) { return cell.Without(q, 1) },
		func() (api.Paradigm, api.Errno) {
			list, e := cell.Needless(p)
			spoil(list)
			return made(sized(2, 2)), e
		},
		func() (api.Paradigm, api.Errno) {
			_, e := cell.Same(p, q)
			return made(sized(2, 2)), e
		},
	} {
		r, e := c()
		if isZero(r) || e != api.OK {
			t.Error("nothing was made:", i, e)
		}
		if spoilParadigm(r) {
			t.Error("lists of one result share memory:", i)
		}
		if fmt.Sprint(room(p), room(q), x.Spec[:cap(x.Spec)]) != before {
			t.Fatal("an argument was changed:", i, p, q, x)
		}
	}
}
