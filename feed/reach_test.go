package feed_test

import (
	"slices"
	"testing"

	"vyakarana/api"
	"vyakarana/feed"
)

func TestReach(t *testing.T) { // P3.1, P3.2
	var large, forever, longest int
	for _, f := range allFollowed() {
		if f.large {
			large++
			errorsOfReach(t, f.s, f.w, api.ErrLarge)
			continue
		}
		if l, e := feed.Reach(f.s, f.w); !same(l, f.words) || e != api.OK {
			t.Fatalf("Reach: %v, %v: %v %v, not %v", f.s, f.w, l, e, f.words)
		}
		if l, e := feed.Ends(f.s, f.w); !same(l, f.ends()) || e != api.OK {
			t.Fatalf("Ends: %v, %v: %v %v, not %v", f.s, f.w, l, e, f.ends())
		}
		if is, e := feed.Forever(f.s, f.w); is != f.forever() || e != api.OK {
			t.Fatalf("Forever: %v, %v: %v %v", f.s, f.w, is, e)
		}
		want := len(f.levels) - 1
		if f.forever() {
			want = 0
			forever++
		} else if len(f.ends()) == 0 {
			t.Fatalf("%v, %v: no end", f.s, f.w)
		}
		longest = max(longest, want)
		if n, ok, e := feed.Longest(f.s, f.w); n != want || ok == f.forever() || e != api.OK {
			t.Fatalf("Longest: %v, %v: %d %v %v, not %d", f.s, f.w, n, ok, e, want)
		}
	}
	if large < 10 || forever < 10 || longest < 10 {
		t.Error("the systems do not show enough:", large, forever, longest)
	}
}

func TestReachByHand(t *testing.T) { // P3.2, with the chapter's examples
	for i, c := range []struct {
		s       []api.Rule
		w       []int
		reach   [][]int
		ends    [][]int
		longest int
		forever bool
	}{
		{nil, nil, [][]int{nil}, [][]int{nil}, 0, false},
		{nil, []int{5, 5}, [][]int{{5, 5}}, [][]int{{5, 5}}, 0, false},
		{system(r(0, 1), r(0, 2)), []int{0}, [][]int{{0}, {1}, {2}}, [][]int{{1}, {2}}, 1, false},
		{system(r(0, 1), r(1, 2)), []int{0}, [][]int{{0}, {1}, {2}}, [][]int{{2}}, 2, false},
		{system(r(0, 1), r(1, 0)), []int{0}, [][]int{{0}, {1}}, nil, 0, true},
		{system(r(0, 1), r(1, 0)), []int{3}, [][]int{{3}}, [][]int{{3}}, 0, false},
		{system(r(0, 1, 1), r(1)), []int{0}, [][]int{nil, {0}, {1}, {1, 1}}, [][]int{nil}, 3, false},
		// The long way and the short one lead to the same end.
		{system(r(0, 3), r(0, 1), r(1, 2), r(2, 3)), []int{0}, [][]int{{0}, {1}, {2}, {3}}, [][]int{{3}}, 3, false},
		// A word that goes on for ever has an end beside it.
		{system(r(0, 1), r(1, 0), r(1, 2)), []int{0}, [][]int{{0}, {1}, {2}}, [][]int{{2}}, 0, true},
		{system(r(3, 0), r(3, 4), r(0, 1), r(1, 0)), []int{3}, [][]int{{0}, {1}, {3}, {4}}, [][]int{{4}}, 0, true},
		// A word of MaxWord sounds to which a rule would add one is an end.
		{system(r(-1, 0)), []int{0, 0, 0, 0, 0, 0}, [][]int{make([]int, 6), make([]int, 7), make([]int, 8)}, [][]int{make([]int, 8)}, 2, false},
		{system(r(0, 0, 0)), []int{0, 5, 5, 5, 5, 5, 5}, [][]int{{0, 0, 5, 5, 5, 5, 5, 5}, {0, 5, 5, 5, 5, 5, 5}}, [][]int{{0, 0, 5, 5, 5, 5, 5, 5}}, 1, false},
	} {
		if l, e := feed.Reach(c.s, c.w); !same(l, c.reach) || e != api.OK {
			t.Errorf("%d: Reach %v %v", i, l, e)
		}
		if l, e := feed.Ends(c.s, c.w); !same(l, c.ends) || e != api.OK {
			t.Errorf("%d: Ends %v %v", i, l, e)
		}
		if is, e := feed.Forever(c.s, c.w); is != c.forever || e != api.OK {
			t.Errorf("%d: Forever %v %v", i, is, e)
		}
		if n, ok, e := feed.Longest(c.s, c.w); n != c.longest || ok == c.forever || e != api.OK {
			t.Errorf("%d: Longest %d %v %v", i, n, ok, e)
		}
	}
}

// checkShortest checks a path from the word to another one, with its length by the definition.
func checkShortest(t *testing.T, f followed, v []int) {
	t.Helper()
	want := f.distance(v)
	path, ok, e := feed.Path(f.s, f.w, v)
	if want < 0 || want > api.MaxSteps {
		if len(path) > 0 || ok || e != api.OK {
			t.Fatalf("%v, %v to %v: %v %v %v, not false", f.s, f.w, v, path, ok, e)
		}
		return
	}
	if len(path) != want || !ok || e != api.OK {
		t.Fatalf("%v, %v to %v: %v %v %v, not %d steps", f.s, f.w, v, path, ok, e, want)
	}
	if end, n, e := feed.CheckPath(f.s, f.w, path); !slices.Equal(end, v) || n != want || e != api.OK {
		t.Fatalf("%v, %v to %v: %v leads to %v %d %v", f.s, f.w, v, path, end, n, e)
	}
	if again, _, _ := feed.Path(f.s, f.w, v); !slices.Equal(again, path) {
		t.Fatalf("%v, %v to %v: %v, then %v", f.s, f.w, v, path, again)
	}
}

func TestPath(t *testing.T) { // P3.3
	for i, f := range allFollowed() {
		if f.large {
			for _, v := range [][]int{f.w, {5}} {
				if path, ok, e := feed.Path(f.s, f.w, v); len(path) > 0 || ok || e != api.ErrLarge {
					t.Fatalf("%v, %v: %v %v %v", f.s, f.w, path, ok, e)
				}
			}
			continue
		}
		for _, v := range someWords() {
			checkShortest(t, f, v)
		}
		checkShortest(t, f, f.w)
		for k := range f.words {
			if (i+k)%19 == 0 {
				checkShortest(t, f, f.words[k])
			}
		}
	}
}

func TestLongPaths(t *testing.T) { // P3.3: words that are reached by 60 steps, and by more than 60 steps only
	f := follow(winding())
	count := map[int]int{}
	for _, v := range f.words {
		checkShortest(t, f, v)
		count[f.distance(v)]++
	}
	if count[60] == 0 || count[61] == 0 {
		t.Error("no words with 60 and with 61 steps:", count)
	}
}

func TestJoin(t *testing.T) { // P3.4
	words := someWords()
	for i, s := range someSystems() {
		if i%3 > 0 {
			continue
		}
		for j := range 6 {
			f, g := follow(s, words[(i/3+j)%len(words)]), follow(s, words[(i/3+j*j+1)%len(words)])
			want, e := false, api.ErrLarge
			if !f.large && !g.large {
				want, e = meet(f.words, g.words), api.OK
			}
			if is, got := feed.Join(s, f.w, g.w); is != want || got != e {
				t.Fatalf("%v, %v, %v: %v %v, not %v %v", s, f.w, g.w, is, got, want, e)
			}
			if is, got := feed.Join(s, g.w, f.w); is != want || got != e {
				t.Fatalf("%v, %v, %v: %v %v, not %v %v", s, g.w, f.w, is, got, want, e)
			}
		}
	}
}

func TestJoinByHand(t *testing.T) { // P3.4
	for i, c := range []struct {
		s    []api.Rule
		u, v []int
		want bool
	}{
		{nil, []int{0}, []int{0}, true},
		{nil, nil, nil, true},
		{nil, []int{0}, []int{1}, false},
		{nil, []int{0}, nil, false},
		{nil, []int{0}, []int{0, 0}, false},
		{system(r(0, 1)), []int{0}, []int{1}, true},
		{system(r(0, 1)), []int{1}, []int{0}, true},
		{system(r(0, 2), r(1, 2)), []int{0}, []int{1}, true},
		{system(r(0, 2), r(1, 3)), []int{0}, []int{1}, false},
		{system(r(0, 1), r(1, 0)), []int{0, 1}, []int{1, 0}, true},
		{system(r(0)), []int{0, 0, 0}, nil, true},
	} {
		if is, e := feed.Join(c.s, c.u, c.v); is != c.want || e != api.OK {
			t.Errorf("%d: %v %v", i, is, e)
		}
	}
}

// isCalm says by the definition whether what a word reaches comes together again after each step.
func isCalm(f followed) bool {
	reach := map[string][][]int{}
	of := func(w []int) [][]int {
		k := key(w)
		if reach[k] == nil {
			reach[k] = follow(f.s, w).words
		}
		return reach[k]
	}
	for _, v := range f.words {
		next := nextOf(f.s, v)
		for i := range next {
			for j := range i {
				if !meet(of(next[i]), of(next[j])) {
					return false
				}
			}
		}
	}
	return true
}

func TestIsCalm(t *testing.T) { // P3.4, S3
	var calm, not int
	for _, f := range allFollowed() {
		if f.large || len(f.words) > 40 {
			continue
		}
		want := isCalm(f)
		if is, e := feed.IsCalm(f.s, f.w); is != want || e != api.OK {
			t.Fatalf("%v, %v: %v %v", f.s, f.w, is, e)
		}
		if want && !f.forever() && len(f.ends()) != 1 {
			t.Fatalf("%v, %v: calm, with the ends %v", f.s, f.w, f.ends())
		}
		if want {
			calm++
		} else {
			not++
		}
	}
	if calm < 50 || not < 50 {
		t.Error("the systems do not show enough:", calm, not)
	}
}

func TestOne(t *testing.T) { // P3.4, S3
	for _, f := range allFollowed() {
		if f.large {
			continue
		}
		var want []int
		has := !f.forever() && len(f.ends()) == 1
		if has {
			want = f.ends()[0]
		}
		if l, ok, e := feed.One(f.s, f.w); !slices.Equal(l, want) || ok != has || e != api.OK {
			t.Fatalf("%v, %v: %v %v %v, not %v", f.s, f.w, l, ok, e, want)
		}
	}
}

func TestCalmByHand(t *testing.T) { // P3.4, with the chapter's examples
	for i, c := range []struct {
		s      []api.Rule
		w      []int
		isCalm bool
		one    []int
		has    bool
	}{
		{nil, []int{3}, true, []int{3}, true},
		{nil, nil, true, nil, true},
		{system(r(0, 1), r(0, 2)), []int{0}, false, nil, false},
		{system(r(0, 1), r(0, 2), r(1, 3), r(2, 3)), []int{0}, true, []int{3}, true},
		{system(r(0, 1, 1), r(1)), []int{0}, true, nil, true},
		{system(r(0, 1), r(1, 0)), []int{0}, true, nil, false},
		// Just one end, but steps go on for ever beside it.
		{system(r(0, 1), r(1, 0), r(1, 2)), []int{0}, true, nil, false},
		// Any two words of each Next join, but there are two ends, since steps go on for ever.
		{system(r(0, 1), r(0, 2), r(1, 0), r(1, 3)), []int{0}, true, nil, false},
		// What does not join comes only later.
		{system(r(0, 1), r(1, 2), r(1, 3)), []int{0}, false, nil, false},
		// Two rules at different places do not disturb each other, or do.
		{system(r(0, 1), r(2, 3)), []int{0, 2}, true, []int{1, 3}, true},
		{system(between(nil, 0, []int{2}, 1), between([]int{0}, 2, nil, 3)), []int{0, 2}, false, nil, false},
		// The words that do not join are not beside the first one, which joins with both.
		{system(r(0, 1), r(0, 2), r(0, 3), r(1, 0)), []int{0}, false, nil, false},
		// 162 words and more: those without 2 join with each other only, whatever their numbers are.
		{system(r(4, 0), r(0, 5), r(5, 4), r(2, 3)), []int{2, 0, 4, 3, 1, 0, 5}, true, nil, false},
		{system(r(4, 0), r(0, 5), r(5, 4), r(2, 3), r(2, 1)), []int{2, 0, 4, 3, 1, 0, 5}, false, nil, false},
		{system(r(0, 1), r(1, 2), r(2, 3), r(3, 4)), []int{0, 0, 2, 3, 3}, true, []int{4, 4, 4, 4, 4}, true},
		// Not calm, with one end: steps go on for ever elsewhere.
		{system(r(0, 1), r(0, 2), r(2, 3), r(3, 2)), []int{0}, false, nil, false},
	} {
		if is, e := feed.IsCalm(c.s, c.w); is != c.isCalm || e != api.OK {
			t.Errorf("%d: IsCalm %v %v", i, is, e)
		}
		if l, ok, e := feed.One(c.s, c.w); !slices.Equal(l, c.one) || ok != c.has || e != api.OK {
			t.Errorf("%d: One %v %v %v", i, l, ok, e)
		}
	}
}

// isUsed says whether some step of a word that is reached is one of the rule.
func isUsed(f followed, k int) bool {
	return slices.ContainsFunc(f.words, func(w []int) bool {
		return slices.ContainsFunc(stepsOf(f.s, w), func(step api.Step) bool { return step.Rule == k })
	})
}

func TestUnused(t *testing.T) { // P3.6
	for _, f := range allFollowed() {
		if f.large {
			continue
		}
		var want []int
		for k := range f.s {
			rest, e := feed.Without(f.s, k)
			words, g := feed.Reach(rest, f.w)
			if e != api.OK || g != api.OK {
				t.Fatalf("%v, %v, without %d: %v %v", f.s, f.w, k, e, g)
			}
			if isUsed(f, k) {
				if slices.ContainsFunc(words, func(w []int) bool { return !has(f.words, w) }) {
					t.Fatalf("%v, %v, without %d: a new word of %v", f.s, f.w, k, words)
				}
				continue
			}
			want = append(want, k)
			if !same(words, f.words) {
				t.Fatalf("%v, %v, without %d, unused: %v", f.s, f.w, k, words)
			}
		}
		if l, e := feed.Unused(f.s, f.w); !slices.Equal(l, want) || e != api.OK {
			t.Fatalf("%v, %v: %v %v, not %v", f.s, f.w, l, e, want)
		}
	}
}

func TestUnusedByHand(t *testing.T) { // P3.6
	for i, c := range []struct {
		s    []api.Rule
		w    []int
		want []int
	}{
		{nil, []int{0}, nil},
		{system(r(0, 1), r(2, 3), r(1, 2)), []int{0}, nil},
		{system(r(0, 1), r(2, 3), r(1, 2)), []int{2}, []int{0, 2}},
		{system(r(0, 1), r(0, 1)), []int{0}, nil},
		{system(r(5), r(5), r(5), r(5), r(5), r(5)), nil, []int{0, 1, 2, 3, 4, 5}},
		// The rule has places, but the words would be too long.
		{system(r(-1, 1, 1), r(0, 1)), []int{0, 0, 0, 0, 0, 0, 0}, []int{0}},
	} {
		if l, e := feed.Unused(c.s, c.w); !slices.Equal(l, c.want) || e != api.OK {
			t.Errorf("%d: %v %v", i, l, e)
		}
	}
}

// TestSoundsOfKeys: words that differ in any one way are different words.
func TestSoundsOfKeys(t *testing.T) { // P3.2
	s := system(r(5, 0), r(5))
	l, e := feed.Reach(s, []int{5, 5})
	if !same(l, [][]int{nil, {0}, {0, 0}, {0, 5}, {5}, {5, 0}, {5, 5}}) || e != api.OK {
		t.Error(l, e)
	}
}
