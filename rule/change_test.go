package rule_test

import (
	"math"
	"slices"
	"testing"

	"vyakarana/api"
	"vyakarana/rule"
)

func TestGain(t *testing.T) { // P2.4
	for _, r := range someRules() {
		for _, s := range someRules() {
			for _, w := range [][]int{nil, {0}, {5, 0}, {0, 0, 5}, {0, 1, 0, 0}, {0, 0, 0, 0, 0, 0, 0, 0}} {
				places := placesOf(r, w)
				for i := -1; i <= len(w)+1; i++ {
					want, e := 0, api.ErrRule
					if slices.Contains(places, i) {
						v := putAt(r, w, i)
						if e = large(len(v) > api.MaxWord); e == api.OK {
							want = len(placesOf(s, v)) - len(placesOf(s, w))
						}
					}
					if n, f := rule.Gain(r, s, w, i); n != want || f != e {
						t.Fatalf("%v, %v, %v, %d: %d %v, not %d %v", r, s, w, i, n, f, want, e)
					}
				}
			}
		}
	}
}

func TestGainByHand(t *testing.T) { // P2.4
	r := api.Rule{From: 0, To: []int{1}}
	for i, c := range []struct {
		s     api.Rule
		w     []int
		place int
		want  int
		e     api.Errno
	}{
		{api.Rule{From: 1, To: []int{2}}, []int{0, 0}, 1, 1, api.OK},
		{r, []int{0, 0}, 1, -1, api.OK},
		{api.Rule{From: 0, Right: []int{0}}, []int{0, 0, 0}, 1, -2, api.OK},
		{api.Rule{From: 3}, []int{0}, 0, 0, api.OK},
		{r, []int{0}, 1, 0, api.ErrRule},
		{r, []int{0}, math.MinInt, 0, api.ErrRule},
		{r, []int{0}, math.MaxInt, 0, api.ErrRule},
	} {
		if n, e := rule.Gain(r, c.s, c.w, c.place); n != c.want || e != c.e {
			t.Errorf("%d: %d %v", i, n, e)
		}
	}
	long := api.Rule{From: 0, To: []int{0, 0}}
	if n, e := rule.Gain(long, r, make([]int, 8), 0); n != 0 || e != api.ErrLarge {
		t.Error(n, e)
	}
}

// inTurn is a word after two rules one after the other, and whether one of the words is too long.
func inTurn(w []int, r, s api.Rule) ([]int, bool) {
	u := putAt(r, w, placesOf(r, w)...)
	v := putAt(s, u, placesOf(s, u)...)
	return v, len(u) > api.MaxWord || len(v) > api.MaxWord
}

func TestCommute(t *testing.T) { // P2.4
	for _, r := range someRules() {
		for _, s := range someRules() {
			for _, w := range [][]int{nil, {0}, {5, 0}, {0, 0, 5}, {0, 1, 0, 0}, {1, 0, 1, 1, 5, 1}, {0, 0, 0, 0, 0, 0, 0, 0}} {
				u, isLong := inTurn(w, r, s)
				v, isLongToo := inTurn(w, s, r)
				e := large(isLong || isLongToo)
				want := e == api.OK && slices.Equal(u, v)
				if is, f := rule.Commute(r, s, w); is != want || f != e {
					t.Fatalf("%v, %v, %v: %v %v, not %v %v", r, s, w, is, f, want, e)
				}
			}
		}
	}
}

func TestCommuteByHand(t *testing.T) { // P2.4
	grow := api.Rule{From: 0, To: []int{0, 0}}
	away := api.Rule{From: 0}
	for i, c := range []struct {
		r, s api.Rule
		w    []int
		is   bool
		e    api.Errno
	}{
		{api.Rule{From: 0, To: []int{1}}, api.Rule{From: 2, To: []int{3}}, []int{0, 2}, true, api.OK},
		{api.Rule{From: 0, To: []int{1}}, api.Rule{From: 1, To: []int{2}}, []int{0}, false, api.OK},
		{grow, away, []int{0, 0}, true, api.OK},
		{api.Rule{From: 5}, api.Rule{From: 5}, []int{5}, true, api.OK},
		// The word between is too long, though both words at the ends are empty.
		{grow, away, []int{0, 0, 0, 0, 0}, false, api.ErrLarge},
		{away, grow, []int{0, 0, 0, 0, 0}, false, api.ErrLarge},
		// The word at one of the ends alone is too long.
		{api.Rule{From: 1, To: []int{0}}, grow, []int{0, 0, 0, 1, 1}, false, api.ErrLarge},
		{grow, api.Rule{From: 1, To: []int{0}}, []int{0, 0, 0, 1, 1}, false, api.ErrLarge},
		{api.Rule{From: 1, To: []int{0}}, grow, []int{0, 0, 1, 1}, false, api.OK},
	} {
		if is, e := rule.Commute(c.r, c.s, c.w); is != c.is || e != c.e {
			t.Errorf("%d: %v %v", i, is, e)
		}
	}
}

func TestErrorsOfGainAndCommute(t *testing.T) { // P2.4 with R2 and R3
	good := api.Rule{From: 0, To: []int{1}}
	check := func(r, s api.Rule, w []int, want api.Errno) {
		t.Helper()
		if n, e := rule.Gain(r, s, w, -1); n != 0 || e != want {
			t.Errorf("Gain: %v, %v, %v: %v %v, not %v", r, s, w, n, e, want)
		}
		if is, e := rule.Commute(r, s, w); is || e != want {
			t.Errorf("Commute: %v, %v, %v: %v %v, not %v", r, s, w, is, e, want)
		}
	}
	for _, c := range badRules() {
		check(c.r, good, nil, c.want)
		check(good, c.r, nil, c.want)
		for _, d := range badWords() {
			check(c.r, good, d.w, c.want)
			check(good, c.r, d.w, c.want)
			check(good, good, d.w, d.want)
		}
		for _, d := range badRules() {
			check(c.r, d.r, []int{9}, c.want)
		}
	}
}

func TestMemoryOfGainAndCommute(t *testing.T) { // P2.4 with R5
	r := api.Rule{From: 0, To: roomy(1, 0), Left: roomy(-1), Right: roomy(0, 1)}
	s := api.Rule{From: 1, To: roomy(0), Left: roomy(0), Right: roomy(-1, 1)}
	w := roomy(0, 1, 0)
	kept, other, before := copiedRule(r), copiedRule(s), slices.Clone(w[:cap(w)])
	rule.Gain(r, s, w, 0)
	rule.Commute(r, s, w)
	if !sameRule(r, kept) || !sameRule(s, other) || !slices.Equal(w[:cap(w)], before) {
		t.Error("an argument was changed:", r, s, w[:cap(w)])
	}
}

// turned is a list the other way round.
func turned(list []int) []int {
	var back []int
	for _, x := range list {
		back = append([]int{x}, back...)
	}
	return back
}

func TestMirror(t *testing.T) { // P2.5, S2
	for _, r := range manyRules() {
		m, e := rule.Mirror(r)
		if !sameRule(m, api.Rule{From: r.From, To: turned(r.To), Left: r.Right, Right: r.Left}) || e != api.OK {
			t.Fatalf("%v: %v %v", r, m, e)
		}
		for _, w := range slices.Concat(words(2, 4), longWords()) {
			checkMirror(t, r, m, w)
		}
	}
}

// checkMirror compares the places and AtAll of a rule with those of its mirror on the word turned round.
func checkMirror(t *testing.T, r, m api.Rule, w []int) {
	t.Helper()
	v, _ := rule.Back(w)
	places, _ := rule.Places(r, w)
	var want []int
	for _, p := range turned(places) {
		if r.From == -1 {
			want = append(want, len(w)-p)
		} else {
			want = append(want, len(w)-1-p)
		}
	}
	if l, e := rule.Places(m, v); !slices.Equal(l, want) || e != api.OK {
		t.Fatalf("%v, %v: the places of the mirror are %v %v", r, w, l, e)
	}
	all, e := rule.AtAll(r, w)
	if l, f := rule.AtAll(m, v); !slices.Equal(l, turned(all)) || f != e {
		t.Fatalf("%v, %v: AtAll of the mirror is %v %v", r, w, l, f)
	}
}

func TestBack(t *testing.T) { // P2.5
	for _, w := range slices.Concat(words(3, 4), longWords()) {
		if v, e := rule.Back(w); !slices.Equal(v, turned(w)) || e != api.OK {
			t.Errorf("%v: %v %v", w, v, e)
		}
	}
}

// named is a list with other sounds.
func named(list, to []int) []int {
	var other []int
	for _, s := range list {
		if s >= 0 {
			s = to[s]
		}
		other = append(other, s)
	}
	return other
}

// newNames are lists with each sound once.
func newNames() [][]int {
	return [][]int{{0, 1, 2, 3, 4, 5}, {5, 4, 3, 2, 1, 0}, {1, 2, 0, 5, 3, 4}, {3, 0, 5, 1, 4, 2}}
}

func TestRename(t *testing.T) { // P2.5
	for _, to := range newNames() {
		for _, r := range append(manyRules(), api.Rule{From: 2, To: []int{4, 3}, Left: []int{-1, 1, 3, 4}, Right: []int{0, 2, 4, 5}}) {
			want := api.Rule{From: named([]int{r.From}, to)[0], To: named(r.To, to), Left: named(r.Left, to), Right: named(r.Right, to)}
			slices.Sort(want.Left)
			slices.Sort(want.Right)
			got, e := rule.Rename(r, to)
			if !sameRule(got, want) || e != api.OK {
				t.Fatalf("%v by %v: %v %v, not %v", r, to, got, e, want)
			}
		}
	}
	r := api.Rule{From: 0, To: []int{1, 0}, Left: []int{-1, 0, 5}, Right: []int{1, 2}}
	got, e := rule.Rename(r, []int{4, 0, 3, 2, 1, 5})
	if !sameRule(got, api.Rule{From: 4, To: []int{0, 4}, Left: []int{-1, 4, 5}, Right: []int{0, 3}}) || e != api.OK {
		t.Error(got, e)
	}
}

func TestSpell(t *testing.T) { // P2.5
	for _, to := range newNames() {
		for _, w := range slices.Concat(words(6, 2), longWords()) {
			if v, e := rule.Spell(w, to); !slices.Equal(v, named(w, to)) || e != api.OK {
				t.Fatalf("%v by %v: %v %v", w, to, v, e)
			}
		}
	}
}

func TestMeasure(t *testing.T) { // P2.5
	for _, r := range manyRules() {
		want := len(r.To) + len(r.Left) + len(r.Right)
		if r.From != -1 {
			want++
		}
		if n, e := rule.Measure(r); n != want || e != api.OK {
			t.Fatalf("%v: %d %v, not %d", r, n, e, want)
		}
	}
	for i, c := range []struct {
		r    api.Rule
		want int
	}{{api.Rule{From: 0}, 1}, {api.Rule{From: -1, To: []int{0}}, 1}, {api.Rule{From: 5, To: []int{0, 1}, Left: allNeighbors(), Right: []int{-1}}, 11}} {
		if n, e := rule.Measure(c.r); n != c.want || e != api.OK {
			t.Errorf("%d: %d %v", i, n, e)
		}
	}
}

func TestErrorsOfChanges(t *testing.T) { // P2.5 with R2 and R3
	names := append(badNames(), []int{0, 1, 2, 3, 4, 5})
	for _, c := range badRules() {
		if m, e := rule.Mirror(c.r); !isZero(m) || e != c.want {
			t.Errorf("Mirror: %v: %v %v, not %v", c.r, m, e, c.want)
		}
		if n, e := rule.Measure(c.r); n != 0 || e != c.want {
			t.Errorf("Measure: %v: %v %v, not %v", c.r, n, e, c.want)
		}
		for _, to := range names {
			if m, e := rule.Rename(c.r, to); !isZero(m) || e != c.want {
				t.Errorf("Rename: %v by %v: %v %v, not %v", c.r, to, m, e, c.want)
			}
		}
	}
	for _, c := range badWords() {
		if v, e := rule.Back(c.w); len(v) != 0 || e != c.want {
			t.Errorf("Back: %v: %v %v, not %v", c.w, v, e, c.want)
		}
		for _, to := range names {
			if v, e := rule.Spell(c.w, to); len(v) != 0 || e != c.want {
				t.Errorf("Spell: %v by %v: %v %v, not %v", c.w, to, v, e, c.want)
			}
		}
	}
	for _, to := range badNames() {
		for _, r := range []api.Rule{{From: 0, To: []int{1}, Left: []int{0}}, {From: -1, To: []int{1}}} {
			if m, e := rule.Rename(r, to); !isZero(m) || e != api.ErrArg {
				t.Errorf("Rename: by %v: %v %v", to, m, e)
			}
		}
		for _, w := range [][]int{nil, {0}, {5, 5}} {
			if v, e := rule.Spell(w, to); len(v) != 0 || e != api.ErrArg {
				t.Errorf("Spell: %v by %v: %v %v", w, to, v, e)
			}
		}
	}
}

// spoilRule writes into all lists of a rule, and reports whether one shares its memory with another one.
func spoilRule(r api.Rule) bool {
	lists := [][]int{r.To, r.Left, r.Right}
	for i, list := range lists {
		before := [][]int{slices.Clone(r.To), slices.Clone(r.Left), slices.Clone(r.Right)}
		spoil(list)
		for j := range lists {
			if j != i && !slices.Equal(lists[j], before[j]) {
				return true
			}
		}
	}
	return false
}

func TestMemoryOfChanges(t *testing.T) { // P2.5 with R5
	r := api.Rule{From: 0, To: roomy(1, 2), Left: roomy(-1, 1, 5), Right: roomy(0, 2)}
	w, same, other := roomy(0, 1, 4), []int{0, 1, 2, 3, 4, 5}, []int{5, 4, 3, 2, 1, 0}
	kept, before := copiedRule(r), slices.Clone(w[:cap(w)])
	m, _ := rule.Mirror(r)
	n, _ := rule.Rename(r, same)
	o, _ := rule.Rename(r, other)
	if spoilRule(m) || spoilRule(n) || spoilRule(o) {
		t.Error("lists of one rule share their memory")
	}
	back, _ := rule.Back(w)
	spoil(back)
	spelled, _ := rule.Spell(w, same)
	spoil(spelled)
	spelled, _ = rule.Spell(w, other)
	spoil(spelled)
	rule.Measure(r)
	if !sameRule(r, kept) || !slices.Equal(w[:cap(w)], before) {
		t.Error("an argument was changed:", r, w[:cap(w)])
	}
	if !slices.Equal(same, []int{0, 1, 2, 3, 4, 5}) || !slices.Equal(other, []int{5, 4, 3, 2, 1, 0}) {
		t.Error("the new names were changed:", same, other)
	}
}
