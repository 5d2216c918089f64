package order_test

import (
	"math"
	"slices"
	"testing"

	"vyakarana/api"
	"vyakarana/order"
)

// differOf is the number of the first choice with another rule or place, -1 if there is none.
func differOf(a, b derived) int {
	for i := range max(len(a.choices), len(b.choices)) {
		if i >= len(a.choices) || i >= len(b.choices) || a.choices[i].Rule != b.choices[i].Rule || a.choices[i].Place != b.choices[i].Place {
			return i
		}
	}
	return -1
}

func TestDiffer(t *testing.T) { // P4.5
	grounds := someGrounds()
	count := map[int]int{}
	for i, a := range someDerived() {
		b := derive(a.s, a.w, grounds[(i*i+i/7)%len(grounds)])
		n, ok, e := order.Differ(a.s, a.w, a.grounds, b.grounds)
		m, is, f := order.Differ(a.s, a.w, b.grounds, a.grounds)
		if n != m || ok != is || e != f {
			t.Fatalf("%v, %v, %v and %v: %d %v %v, and %d %v %v", a.s, a.w, a.grounds, b.grounds, n, ok, e, m, is, f)
		}
		want := differOf(a, b)
		switch {
		case a.large || b.large:
			if n != 0 || ok || e != api.ErrLarge {
				t.Fatalf("%v, %v, %v and %v: %d %v %v, not large", a.s, a.w, a.grounds, b.grounds, n, ok, e)
			}
		case n != max(0, want) || ok != (want >= 0) || e != api.OK:
			t.Fatalf("%v, %v, %v and %v: %d %v %v, not %d", a.s, a.w, a.grounds, b.grounds, n, ok, e, want)
		default:
			count[want]++
		}
	}
	if count[-1] < 10 || count[0] < 10 || count[1] < 10 || count[2] < 10 {
		t.Error("the derivations do not show enough:", count)
	}
}

func TestDifferByHand(t *testing.T) { // P4.5
	two := system(r(0, 1), r(0, 2))
	for i, c := range []struct {
		s    []api.Rule
		w    []int
		g, h []int
		n    int
		ok   bool
		e    api.Errno
	}{
		{nil, nil, nil, []int{1}, 0, false, api.OK},
		// The same steps, by other grounds.
		{two, []int{0, 0}, []int{3, 4}, []int{4, 3}, 0, false, api.OK},
		{two, []int{0}, nil, []int{4}, 0, false, api.OK},
		// The same rules at other places, and other rules at the same places.
		{two, []int{0, 0}, []int{3, 4}, nil, 0, true, api.OK},
		{system(between([]int{-1}, 0, nil, 1), r(0, 2)), []int{0}, []int{1}, []int{4}, 0, true, api.OK},
		{system(between([]int{4}, 0, nil, 1), r(0, 2), r(3, 4)), []int{3, 0}, []int{3, 1}, []int{3}, 1, true, api.OK},
		// One of the derivations goes on for ever, also if they differ before.
		{halfway(), []int{0}, []int{4, 1}, []int{1, 4}, 0, false, api.ErrLarge},
		{halfway(), []int{0}, []int{1, 4}, []int{4, 1}, 0, false, api.ErrLarge},
		{halfway(), []int{0}, []int{4, 1}, []int{4}, 0, false, api.OK},
	} {
		if n, ok, e := order.Differ(c.s, c.w, c.g, c.h); n != c.n || ok != c.ok || e != c.e {
			t.Errorf("%d: %d %v %v", i, n, ok, e)
		}
	}
}

func TestForms(t *testing.T) { // P4.5
	most := 0
	for i, x := range someTasks() {
		if i%2 > 0 {
			continue
		}
		var want [][]int
		for _, g := range fourGrounds() {
			if d := derive(x.s, x.w, g); !d.large {
				want = append(want, d.form)
			}
		}
		slices.SortFunc(want, slices.Compare)
		want = slices.CompactFunc(want, slices.Equal)
		most = max(most, len(want))
		if forms, e := order.Forms(x.s, x.w); !same(forms, want) || e != api.OK {
			t.Fatalf("%v, %v: %v %v, not %v", x.s, x.w, forms, e, want)
		}
	}
	if most < 3 {
		t.Error("the systems do not show enough:", most)
	}
}

func TestFormsByHand(t *testing.T) { // P4.5
	for i, c := range []struct {
		s    []api.Rule
		w    []int
		want [][]int
	}{
		{nil, []int{1}, [][]int{{1}}},
		{nil, nil, [][]int{nil}},
		{system(r(0, 1), r(0, 2)), []int{0, 0}, [][]int{{2, 2}}},
		{system(between([]int{-1}, 0, nil, 2), r(0, 1)), []int{0}, [][]int{{1}, {2}}},
		// Some, or all, derivations go on for ever.
		{halfway(), []int{0}, [][]int{{2}}},
		{round(), []int{0}, nil},
		// By later and by inner, the rule 1 comes at another time; the shorter word comes first.
		{system(between([]int{-1}, 0, []int{5}, 1), r(5), between([]int{1}, 5, nil, 3)), []int{0, 5}, [][]int{{0}, {1, 3}}},
	} {
		if forms, e := order.Forms(c.s, c.w); !same(forms, c.want) || e != api.OK {
			t.Errorf("%d: %v %v, not %v", i, forms, e, c.want)
		}
	}
}

func TestUsed(t *testing.T) { // P4.5
	count := map[int]int{}
	for _, d := range someDerived() {
		if d.large {
			continue
		}
		var want []int
		for g := 1; g <= 4; g++ {
			if slices.ContainsFunc(d.choices, func(c api.Choice) bool { return c.Ground == g }) {
				want = append(want, g)
			}
		}
		count[len(want)]++
		if used, e := order.Used(d.s, d.w, d.grounds); !slices.Equal(used, want) || e != api.OK {
			t.Fatalf("%v, %v, %v: %v %v, not %v", d.s, d.w, d.grounds, used, e, want)
		}
	}
	if count[0] < 10 || count[1] < 10 || count[2] < 10 || count[3] < 1 {
		t.Error("the derivations do not show enough:", count)
	}
}

func TestUsedByHand(t *testing.T) { // P4.5
	s := system(r(0, 1), between([]int{-1}, 0, nil, 2))
	for i, c := range []struct {
		w, grounds, want []int
	}{
		{nil, []int{1, 2, 3, 4}, nil}, {[]int{0}, nil, nil}, {[]int{0}, []int{2}, nil}, {[]int{0}, []int{1, 4}, []int{1}}, {[]int{0}, []int{4, 1}, []int{4}},
		// Each once, in ascending order.
		{[]int{0, 0, 0, 0}, []int{4, 3}, []int{3, 4}}, {[]int{0, 0, 0, 0}, []int{3, 1}, []int{1, 3}}, {[]int{3, 0, 0, 0, 0}, []int{1, 3}, []int{3}},
	} {
		if used, e := order.Used(s, c.w, c.grounds); !slices.Equal(used, c.want) || e != api.OK {
			t.Errorf("%d: %v %v, not %v", i, used, e, c.want)
		}
	}
}

func TestNeedless(t *testing.T) { // P4.5
	needed, large := 0, 0
	for _, d := range someDerived() {
		if d.large {
			continue
		}
		var want []int
		for g := 1; g <= 4; g++ {
			i := slices.Index(d.grounds, g)
			if i < 0 {
				continue
			}
			other := derive(d.s, d.w, slices.Delete(slices.Clone(d.grounds), i, i+1))
			if other.large {
				large++
			} else if slices.Equal(other.form, d.form) {
				want = append(want, g)
			} else {
				needed++
			}
		}
		if needless, e := order.Needless(d.s, d.w, d.grounds); !slices.Equal(needless, want) || e != api.OK {
			t.Fatalf("%v, %v, %v: %v %v, not %v", d.s, d.w, d.grounds, needless, e, want)
		}
	}
	if needed < 10 || large < 1 {
		t.Error("the derivations do not show enough:", needed, large)
	}
}

func TestNeedlessByHand(t *testing.T) { // P4.5
	front := system(between([]int{-1}, 0, nil, 2), r(0, 1))
	for i, c := range []struct {
		s       []api.Rule
		w       []int
		grounds []int
		want    []int
	}{
		{front, []int{0}, nil, nil},
		{front, []int{0}, []int{1}, nil},
		{front, []int{0}, []int{4}, []int{4}},
		{front, []int{0}, []int{1, 4}, []int{4}},
		{front, []int{0}, []int{4, 1}, []int{1}},
		{front, []int{0}, []int{4, 3, 2, 1}, []int{1, 2, 3}},
		{front, []int{3}, []int{4, 2, 3, 1}, []int{1, 2, 3, 4}},
		// Other steps may have the same Form.
		{system(r(0, 1)), []int{0, 0}, []int{3}, []int{3}},
		// Without the ground 4 this goes on for ever.
		{halfway(), []int{0}, []int{4, 1}, []int{1}},
	} {
		if needless, e := order.Needless(c.s, c.w, c.grounds); !slices.Equal(needless, c.want) || e != api.OK {
			t.Errorf("%d: %v %v, not %v", i, needless, e, c.want)
		}
	}
}

// wordsOf are all words of at most length sounds, all of them below sounds, in ascending order.
func wordsOf(sounds, length int) [][]int {
	list := [][]int{nil}
	for i := 0; i < len(list); i++ {
		for s := range sounds {
			if len(list[i]) < length {
				list = append(list, append(slices.Clone(list[i]), s))
			}
		}
	}
	slices.SortFunc(list, slices.Compare)
	return list
}

// checkBases compares the bases of all forms of such words, and of some words that are no ends.
func checkBases(t *testing.T, s []api.Rule, g []int, sounds, length int) int {
	t.Helper()
	words := wordsOf(sounds, length)
	var all []derived
	forms := [][]int{nil, {0}, {5, 5}, {0, 0, 0, 0, 0, 0, 0, 0}}
	for _, w := range words {
		all = append(all, derive(s, w, g))
		forms = append(forms, all[len(all)-1].form)
	}
	slices.SortFunc(forms, slices.Compare)
	most := 0
	for _, form := range slices.CompactFunc(forms, slices.Equal) {
		var want [][]int
		for _, d := range all {
			if !d.large && slices.Equal(d.form, form) {
				want = append(want, d.w)
			}
		}
		most = max(most, len(want))
		if bases, e := order.Bases(s, g, form, sounds, length); !same(bases, want) || e != api.OK {
			t.Fatalf("%v, %v, %v, %d, %d: %v %v, not %v", s, g, form, sounds, length, bases, e, want)
		}
	}
	return most
}

func TestBases(t *testing.T) { // P4.6
	grounds := someGrounds()
	most := 0
	for i, s := range someSystems() {
		if i%9 == 0 {
			most = max(most, checkBases(t, s, grounds[(7*i)%len(grounds)], 1+i/9%3, i%4))
		}
	}
	most = max(most, checkBases(t, halfway(), []int{1, 4}, 3, 4), checkBases(t, halfway(), []int{4, 1}, 3, 4), checkBases(t, round(), []int{3}, 3, 4))
	if most < 10 {
		t.Error("the systems do not show enough:", most)
	}
}

func TestBasesByHand(t *testing.T) { // P4.6
	front := system(r(0, 1), between([]int{-1}, 0, nil, 2))
	for i, c := range []struct {
		s              []api.Rule
		grounds, form  []int
		sounds, length int
		want           [][]int
	}{
		{front, []int{1, 3}, []int{2, 1}, 3, 4, [][]int{{0, 0}, {0, 1}, {2, 0}, {2, 1}}},
		{front, []int{1, 3}, []int{2, 1}, 2, 4, [][]int{{0, 0}, {0, 1}}},
		{front, []int{1, 3}, []int{2, 1}, 1, 2, [][]int{{0, 0}}},
		{front, []int{1, 3}, []int{2, 1}, 3, 1, nil},
		{front, []int{1, 3}, nil, 1, 0, [][]int{nil}},
		// The form may have other sounds and be longer; but it must be an end.
		{system(r(0, 5, 5)), nil, []int{5, 5, 5, 5, 5, 5, 5, 5}, 3, 4, [][]int{{0, 0, 0, 0}}},
		{front, []int{1, 3}, []int{0, 1}, 3, 4, nil},
		{nil, nil, []int{0, 1, 2, 0}, 3, 4, [][]int{{0, 1, 2, 0}}},
		{nil, nil, []int{0, 1, 2, 3}, 3, 4, nil},
		// A shorter word comes before those that begin with it.
		{system(r(0)), nil, []int{1}, 2, 2, [][]int{{0, 1}, {1}, {1, 0}}},
		{system(r(0)), []int{3}, nil, 1, 4, [][]int{nil, {0}, {0, 0}, {0, 0, 0}, {0, 0, 0, 0}}},
		// Words whose derivations go on for ever are none.
		{halfway(), []int{1, 4}, []int{2}, 3, 1, [][]int{{2}}},
		{halfway(), []int{4, 1}, []int{2}, 3, 1, [][]int{{0}, {1}, {2}}},
	} {
		if bases, e := order.Bases(c.s, c.grounds, c.form, c.sounds, c.length); !same(bases, c.want) || e != api.OK {
			t.Errorf("%d: %v %v, not %v", i, bases, e, c.want)
		}
	}
}

func TestErrorsOfBases(t *testing.T) { // P4.6
	for _, n := range [][2]int{{0, 2}, {4, 2}, {2, -1}, {2, 5}, {-1, 9}, {math.MinInt, 0}, {3, math.MaxInt}, {math.MaxInt, math.MaxInt}, {1, math.MinInt}} {
		if bases, e := order.Bases(round(), []int{1}, []int{2}, n[0], n[1]); len(bases) > 0 || e != api.ErrArg {
			t.Errorf("%v: %v %v", n, bases, e)
		}
	}
}
