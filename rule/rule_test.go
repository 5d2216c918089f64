package rule_test

import (
	"math"
	"slices"
	"testing"

	"vyakarana/api"
	"vyakarana/rule"
)

// mayBe says what a neighbor may be by a set.
func mayBe(set []int, neighbor int) bool { return len(set) == 0 || slices.Contains(set, neighbor) }

// around is a word with the edges, so that the sound at the place i is at i + 1.
func around(w []int) []int { return slices.Concat([]int{-1}, w, []int{-1}) }

// has reports whether a rule has the place i, which is one of the word or behind its last one.
func has(r api.Rule, w []int, i int) bool {
	a := around(w)
	if r.From == -1 {
		return mayBe(r.Left, a[i]) && mayBe(r.Right, a[i+1])
	}
	return i < len(w) && w[i] == r.From && mayBe(r.Left, a[i]) && mayBe(r.Right, a[i+2])
}

func placesOf(r api.Rule, w []int) []int {
	var list []int
	for i := range len(w) + 1 {
		if has(r, w, i) {
			list = append(list, i)
		}
	}
	return list
}

// putAt is the word with To at the given places of the rule, without a limit.
func putAt(r api.Rule, w []int, places ...int) []int {
	var v []int
	for i := range len(w) + 1 {
		is := slices.Contains(places, i)
		if is {
			v = append(v, r.To...)
		}
		if i < len(w) && (!is || r.From == -1) {
			v = append(v, w[i])
		}
	}
	return v
}

// goneAlong is what Along makes, without a limit: what is behind i is not yet gone through.
func goneAlong(r api.Rule, w []int) []int {
	v := slices.Clone(w)
	for i := 0; i <= len(v); {
		if !has(r, v, i) {
			i++
			continue
		}
		v = putAt(r, v, i)
		i += len(r.To)
		if r.From == -1 {
			i++
		}
	}
	return v
}

func TestValidate(t *testing.T) { // P2.1
	for _, r := range slices.Concat(manyRules(), []api.Rule{
		{From: 5, To: []int{5, 5}}, {From: 5}, {From: 0}, {From: -1, To: []int{0}}, {From: -1, To: []int{5, 0}},
		{From: 3, To: []int{4}, Left: allNeighbors(), Right: allNeighbors()}, {From: 3, To: []int{4}, Left: []int{-1}, Right: []int{5}},
	}) {
		if e := rule.Validate(r); e != api.OK {
			t.Fatalf("%v: %v", r, e)
		}
	}
	for _, c := range badRules() {
		if e := rule.Validate(c.r); e != c.want {
			t.Errorf("%v: %v, not %v", c.r, e, c.want)
		}
	}
}

func TestValidateWord(t *testing.T) { // P2.1
	for _, w := range slices.Concat(words(6, 2), longWords()) {
		if e := rule.ValidateWord(w); e != api.OK {
			t.Errorf("%v: %v", w, e)
		}
	}
	for _, c := range badWords() {
		if e := rule.ValidateWord(c.w); e != c.want {
			t.Errorf("%v: %v, not %v", c.w, e, c.want)
		}
	}
}

// checkZero calls the functions of P2.2 with an error that is found before any place is looked at.
func checkZero(t *testing.T, r api.Rule, w []int, want api.Errno) {
	t.Helper()
	for _, place := range []int{0, -1, math.MaxInt} {
		if l, e := rule.Apply(r, w, place); len(l) != 0 || e != want {
			t.Errorf("Apply: %v, %v: %v %v, not %v", r, w, l, e, want)
		}
	}
	if l, e := rule.Places(r, w); len(l) != 0 || e != want {
		t.Errorf("Places: %v, %v: %v %v, not %v", r, w, l, e, want)
	}
	if l, ok, e := rule.First(r, w); len(l) != 0 || ok || e != want {
		t.Errorf("First: %v, %v: %v %v %v, not %v", r, w, l, ok, e, want)
	}
	if l, e := rule.AtAll(r, w); len(l) != 0 || e != want {
		t.Errorf("AtAll: %v, %v: %v %v, not %v", r, w, l, e, want)
	}
	if l, e := rule.Along(r, w); len(l) != 0 || e != want {
		t.Errorf("Along: %v, %v: %v %v, not %v", r, w, l, e, want)
	}
}

func TestErrorsWithWords(t *testing.T) { // P2.2 with R2 and R3
	for _, c := range badRules() {
		checkZero(t, c.r, []int{0, 5}, c.want)
		for _, d := range badWords() {
			checkZero(t, c.r, d.w, c.want)
		}
	}
	for _, r := range []api.Rule{{From: 0, To: []int{1}}, {From: -1, To: []int{1, 1}}, {From: 5}} {
		for _, d := range badWords() {
			checkZero(t, r, d.w, d.want)
		}
	}
}

// word checks a word that a function returned, where it should be this one if it is not too long.
func word(t *testing.T, name string, r api.Rule, w, got []int, e api.Errno, want []int) {
	t.Helper()
	if len(want) > api.MaxWord {
		if len(got) != 0 || e != api.ErrLarge {
			t.Fatalf("%s: %v, %v: %v %v, not ErrLarge", name, r, w, got, e)
		}
	} else if !slices.Equal(got, want) || e != api.OK {
		t.Fatalf("%s: %v, %v: %v %v, not %v", name, r, w, got, e, want)
	}
}

func checkApply(t *testing.T, r api.Rule, w, places []int) {
	t.Helper()
	for i := -2; i <= len(w)+2; i++ {
		got, e := rule.Apply(r, w, i)
		if slices.Contains(places, i) {
			word(t, "Apply", r, w, got, e, putAt(r, w, i))
		} else if len(got) != 0 || e != api.ErrRule {
			t.Fatalf("Apply: %v, %v, %d: %v %v, not ErrRule", r, w, i, got, e)
		}
	}
}

func checkFirst(t *testing.T, r api.Rule, w, places []int) {
	t.Helper()
	got, ok, e := rule.First(r, w)
	if len(places) == 0 {
		if len(got) != 0 || ok || e != api.OK {
			t.Fatalf("First: %v, %v: %v %v %v, not false", r, w, got, ok, e)
		}
		return
	}
	word(t, "First", r, w, got, e, putAt(r, w, places[0]))
	if ok != (e == api.OK) {
		t.Fatalf("First: %v, %v: %v %v", r, w, ok, e)
	}
}

func TestPlaces(t *testing.T) { // P2.2
	for _, r := range manyRules() {
		for _, w := range slices.Concat(words(2, 5), longWords()) {
			places := placesOf(r, w)
			if l, e := rule.Places(r, w); !slices.Equal(l, places) || e != api.OK {
				t.Fatalf("Places: %v, %v: %v %v, not %v", r, w, l, e, places)
			}
			checkApply(t, r, w, places)
			checkFirst(t, r, w, places)
			all, e := rule.AtAll(r, w)
			word(t, "AtAll", r, w, all, e, putAt(r, w, places...))
			along, f := rule.Along(r, w)
			word(t, "Along", r, w, along, f, goneAlong(r, w))
			if len(r.Left)+len(r.Right) == 0 && r.From >= 0 && (!slices.Equal(all, along) || e != f) {
				t.Fatalf("%v, %v: AtAll %v %v, Along %v %v", r, w, all, e, along, f)
			}
		}
	}
}

func TestWordsByHand(t *testing.T) { // P2.2, with the chapter's examples
	for i, c := range []struct {
		r                       api.Rule
		w, places, atAll, along []int
		largeAtAll, largeAlong  bool
		first                   []int
		noFirst, largeFirst     bool
	}{
		{r: api.Rule{From: 0, To: []int{1}, Left: []int{-1}}, w: []int{0, 0}, places: []int{0}, atAll: []int{1, 0}, along: []int{1, 0}, first: []int{1, 0}},
		{r: api.Rule{From: 0, To: []int{1}, Left: []int{1}}, w: []int{1, 0, 0}, places: []int{1}, atAll: []int{1, 1, 0}, along: []int{1, 1, 1}, first: []int{1, 1, 0}},
		{r: api.Rule{From: -1, To: []int{2}, Left: []int{0}, Right: []int{0}}, w: []int{0, 0, 0}, places: []int{1, 2}, atAll: []int{0, 2, 0, 2, 0}, along: []int{0, 2, 0, 2, 0}, first: []int{0, 2, 0, 0}},
		// What is left out brings the edge, and so the next sound, to its place.
		{r: api.Rule{From: 0, Left: []int{-1}}, w: []int{0, 0, 1, 0}, places: []int{0}, atAll: []int{0, 1, 0}, along: []int{1, 0}, first: []int{0, 1, 0}},
		{r: api.Rule{From: 0, Right: []int{-1}}, w: []int{0, 0}, places: []int{1}, atAll: []int{0}, along: []int{0}, first: []int{0}},
		{r: api.Rule{From: 0, To: []int{0, 1}, Right: []int{0}}, w: []int{0, 0, 0}, places: []int{0, 1}, atAll: []int{0, 1, 0, 1, 0}, along: []int{0, 1, 0, 1, 0}, first: []int{0, 1, 0, 0}},
		// What was put in front of a sound is no longer beside the one before it.
		{r: api.Rule{From: -1, To: []int{1}, Left: []int{-1, 0}}, w: []int{0, 0}, places: []int{0, 1, 2}, atAll: []int{1, 0, 1, 0, 1}, along: []int{1, 0, 1, 0, 1}, first: []int{1, 0, 0}},
		{r: api.Rule{From: -1, To: []int{3, 4}}, w: nil, places: []int{0}, atAll: []int{3, 4}, along: []int{3, 4}, first: []int{3, 4}},
		{r: api.Rule{From: -1, To: []int{3}, Left: []int{0}, Right: []int{-1}}, w: []int{1, 0}, places: []int{2}, atAll: []int{1, 0, 3}, along: []int{1, 0, 3}, first: []int{1, 0, 3}},
		{r: api.Rule{From: 2}, w: []int{2, 2, 2}, places: []int{0, 1, 2}, first: []int{2, 2}},
		{r: api.Rule{From: 2}, w: []int{1, 3}, atAll: []int{1, 3}, along: []int{1, 3}, noFirst: true},
		{r: api.Rule{From: 0, To: []int{1, 1}}, w: []int{0, 2, 2, 2, 2, 2, 0}, places: []int{0, 6}, largeAtAll: true, largeAlong: true, first: []int{1, 1, 2, 2, 2, 2, 2, 0}},
		{r: api.Rule{From: 0, To: []int{1, 1}}, w: []int{0, 2, 2, 2, 2, 2, 2, 2}, places: []int{0}, largeAtAll: true, largeAlong: true, largeFirst: true},
		// Along, each application makes the place of the next one; at all places at once there is just one.
		{r: api.Rule{From: 0, To: []int{2, 1}, Left: []int{1}}, w: []int{1, 0, 0, 2, 2, 2, 2}, places: []int{1}, atAll: []int{1, 2, 1, 0, 2, 2, 2, 2}, largeAlong: true, first: []int{1, 2, 1, 0, 2, 2, 2, 2}},
		// At all places at once there are two; along, the first application takes the second place away.
		{r: api.Rule{From: 0, To: []int{1, 1}, Left: []int{-1, 0}}, w: []int{0, 0, 2, 2, 2, 2, 2}, places: []int{0, 1}, largeAtAll: true, along: []int{1, 1, 0, 2, 2, 2, 2, 2}, first: []int{1, 1, 0, 2, 2, 2, 2, 2}},
	} {
		if l, e := rule.Places(c.r, c.w); !slices.Equal(l, c.places) || e != api.OK {
			t.Errorf("%d: Places %v %v", i, l, e)
		}
		if l, e := rule.AtAll(c.r, c.w); !slices.Equal(l, c.atAll) || e != large(c.largeAtAll) {
			t.Errorf("%d: AtAll %v %v", i, l, e)
		}
		if l, e := rule.Along(c.r, c.w); !slices.Equal(l, c.along) || e != large(c.largeAlong) {
			t.Errorf("%d: Along %v %v", i, l, e)
		}
		if l, ok, e := rule.First(c.r, c.w); !slices.Equal(l, c.first) || ok != (!c.noFirst && !c.largeFirst) || e != large(c.largeFirst) {
			t.Errorf("%d: First %v %v %v", i, l, ok, e)
		}
	}
}

func large(is bool) api.Errno {
	if is {
		return api.ErrLarge
	}
	return api.OK
}

func TestApplyNoPlace(t *testing.T) { // P2.2, R6: ErrRule before ErrLarge
	r := api.Rule{From: 0, To: []int{1, 1}, Left: []int{-1}}
	w := []int{0, 0, 0, 0, 0, 0, 0, 0}
	if l, e := rule.Apply(r, w, 0); len(l) != 0 || e != api.ErrLarge {
		t.Error(l, e)
	}
	for _, place := range []int{1, 7, 8, 9, -1, math.MinInt, math.MaxInt} {
		if l, e := rule.Apply(r, w, place); len(l) != 0 || e != api.ErrRule {
			t.Errorf("%d: %v %v", place, l, e)
		}
	}
	in := api.Rule{From: -1, To: []int{1}}
	for _, place := range []int{-1, 9, math.MinInt, math.MaxInt} {
		if l, e := rule.Apply(in, w, place); len(l) != 0 || e != api.ErrRule {
			t.Errorf("%d: %v %v", place, l, e)
		}
	}
}

// roomy is a list with room behind it, into which a careless append would write.
func roomy(list ...int) []int {
	return append(make([]int, 0, len(list)+20), list...)
}

func TestMemoryOfWords(t *testing.T) { // P2.2 with R5
	for _, r := range []api.Rule{
		{From: 0, To: roomy(1), Left: roomy(-1, 0), Right: roomy(0, 1)}, {From: 0, To: roomy(0, 0), Left: roomy(1)}, {From: 0, To: roomy()},
		{From: -1, To: roomy(2), Right: roomy(-1, 1)}, {From: 3, To: roomy(2)}, {From: 0, To: roomy(2)},
	} {
		for _, w := range [][]int{roomy(), roomy(0), roomy(0, 1, 0, 0, 1)} {
			before, kept := slices.Clone(w[:cap(w)]), copiedRule(r)
			places, _ := rule.Places(r, w)
			spoil(places)
			applied, _ := rule.Apply(r, w, 0)
			spoil(applied)
			first, _, _ := rule.First(r, w)
			spoil(first)
			all, _ := rule.AtAll(r, w)
			spoil(all)
			along, _ := rule.Along(r, w)
			spoil(along)
			if !slices.Equal(w[:cap(w)], before) || !sameRule(r, kept) {
				t.Errorf("%v, %v: an argument was changed: %v, %v", kept, before, r, w[:cap(w)])
			}
		}
	}
}
