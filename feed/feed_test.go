package feed_test

import (
	"math"
	"slices"
	"testing"

	"vyakarana/api"
	"vyakarana/feed"
	"vyakarana/rule"
)

func TestValidate(t *testing.T) { // P3.1
	for _, s := range append(someSystems(), system(r(5), r(5), r(5), r(5), r(5), r(5))) {
		if e := feed.Validate(s); e != api.OK {
			t.Errorf("%v: %v", s, e)
		}
	}
	for _, c := range badSystems() {
		if e := feed.Validate(c.value); e != c.want {
			t.Errorf("%v: %v, not %v", c.value, e, c.want)
		}
	}
}

// refusal returns a check of one call with a system and a word: that it returned the error and nothing else.
func refusal(t *testing.T, s []api.Rule, w []int, want api.Errno) func(name string, e api.Errno, zero bool) {
	return func(name string, e api.Errno, zero bool) {
		t.Helper()
		if e != want || !zero {
			t.Errorf("%s: %v, %v: %v, not %v; zero: %v", name, s, w, e, want, zero)
		}
	}
}

// errorsOf calls all functions with a system and a word, and checks that they return the error and nothing else.
func errorsOf(t *testing.T, s []api.Rule, w []int, want api.Errno) {
	t.Helper()
	check := refusal(t, s, w, want)
	steps, e := feed.Steps(s, w)
	check("Steps", e, len(steps) == 0)
	next, e := feed.Next(s, w)
	check("Next", e, len(next) == 0)
	isEnd, e := feed.IsEnd(s, w)
	check("IsEnd", e, !isEnd)
	for _, path := range [][]api.Step{nil, {{Rule: 9}}, make([]api.Step, 61)} {
		end, n, e := feed.CheckPath(s, w, path)
		check("CheckPath", e, len(end) == 0 && n == 0)
	}
	errorsOfReach(t, s, w, want)
	for _, v := range [][]int{w, nil, {9}, make([]int, 9)} {
		path, ok, e := feed.Path(s, w, v)
		check("Path", e, len(path) == 0 && !ok)
		is, e := feed.Join(s, w, v)
		check("Join", e, !is)
	}
}

// errorsOfReach does so with those that need what the word reaches, and no other word.
func errorsOfReach(t *testing.T, s []api.Rule, w []int, want api.Errno) {
	t.Helper()
	check := refusal(t, s, w, want)
	reach, e := feed.Reach(s, w)
	check("Reach", e, len(reach) == 0)
	ends, e := feed.Ends(s, w)
	check("Ends", e, len(ends) == 0)
	forever, e := feed.Forever(s, w)
	check("Forever", e, !forever)
	n, ok, e := feed.Longest(s, w)
	check("Longest", e, n == 0 && !ok)
	calm, e := feed.IsCalm(s, w)
	check("IsCalm", e, !calm)
	one, ok, e := feed.One(s, w)
	check("One", e, len(one) == 0 && !ok)
	unused, e := feed.Unused(s, w)
	check("Unused", e, len(unused) == 0)
}

func TestErrors(t *testing.T) { // P3.1 with R1 to R3
	for _, c := range badSystems() {
		errorsOf(t, c.value, nil, c.want)
		for _, d := range badWords() {
			errorsOf(t, c.value, d.value, c.want)
		}
	}
	for _, s := range [][]api.Rule{nil, system(r(0, 1)), growing()} {
		for _, c := range badWords() {
			errorsOf(t, s, c.value, c.want)
			// A first word that is right, and too many words that it reaches, do not hide the second one's errors.
			if path, ok, e := feed.Path(s, nil, c.value); len(path) > 0 || ok || e != c.want {
				t.Errorf("Path: %v: %v %v %v", c.value, path, ok, e)
			}
			if is, e := feed.Join(s, nil, c.value); is || e != c.want {
				t.Errorf("Join: %v: %v %v", c.value, is, e)
			}
		}
	}
}

func TestMaxReach(t *testing.T) { // P3.1
	s, w := threeHundred()
	if l, e := feed.Reach(s, w); len(l) != 300 || e != api.OK {
		t.Error(len(l), e)
	}
	if ok, e := feed.Join(s, w, w); !ok || e != api.OK {
		t.Error("Join:", ok, e)
	}
	if l, ok, e := feed.Path(s, w, []int{4, 4, 4, 4, 4}); len(l) != 12 || !ok || e != api.OK {
		t.Error("Path:", l, ok, e)
	}
	s, w = oneMore()
	errorsOfReach(t, s, w, api.ErrLarge)
	errorsOfReach(t, growing(), nil, api.ErrLarge)
	for _, v := range [][]int{w, nil, {4}} {
		if l, ok, e := feed.Path(s, w, v); len(l) > 0 || ok || e != api.ErrLarge {
			t.Errorf("Path: %v: %v %v %v", v, l, ok, e)
		}
		if is, e := feed.Join(s, w, v); is || e != api.ErrLarge {
			t.Errorf("Join: %v first: %v %v", w, is, e)
		}
		if is, e := feed.Join(s, v, w); is || e != api.ErrLarge {
			t.Errorf("Join: %v second: %v %v", w, is, e)
		}
	}
	// What the second word of Path reaches is not needed.
	if l, ok, e := feed.Path(s, []int{4}, w); len(l) > 0 || ok || e != api.OK {
		t.Error(l, ok, e)
	}
	// Neither is what a word reaches for its own steps.
	if l, e := feed.Steps(s, w); len(l) == 0 || e != api.OK {
		t.Error(l, e)
	}
	if l, e := feed.Next(s, w); len(l) == 0 || e != api.OK {
		t.Error(l, e)
	}
	if is, e := feed.IsEnd(s, w); is || e != api.OK {
		t.Error(is, e)
	}
	if l, n, e := feed.CheckPath(s, w, nil); !slices.Equal(l, w) || n != 0 || e != api.OK {
		t.Error(l, n, e)
	}
}

func TestSteps(t *testing.T) { // P3.2
	for _, s := range someSystems() {
		for _, w := range someWords() {
			want := stepsOf(s, w)
			if l, e := feed.Steps(s, w); !slices.Equal(l, want) || e != api.OK {
				t.Fatalf("Steps: %v, %v: %v %v, not %v", s, w, l, e, want)
			}
			if l, e := feed.Next(s, w); !same(l, nextOf(s, w)) || e != api.OK {
				t.Fatalf("Next: %v, %v: %v %v", s, w, l, e)
			}
			if is, e := feed.IsEnd(s, w); is != (len(want) == 0) || e != api.OK {
				t.Fatalf("IsEnd: %v, %v: %v %v", s, w, is, e)
			}
		}
	}
}

func TestStepsByHand(t *testing.T) { // P3.2
	for i, c := range []struct {
		s     []api.Rule
		w     []int
		steps []api.Step
		next  [][]int
	}{
		{nil, []int{0, 1}, nil, nil},
		{system(r(0, 1), r(0, 2)), []int{0, 3, 0}, []api.Step{{Rule: 0, Place: 0}, {Rule: 0, Place: 2}, {Rule: 1, Place: 0}, {Rule: 1, Place: 2}}, [][]int{{0, 3, 1}, {0, 3, 2}, {1, 3, 0}, {2, 3, 0}}},
		// Two steps may lead to one word; the shorter word comes first.
		{system(r(0), r(-1, 0)), []int{0, 0}, []api.Step{{Rule: 0, Place: 0}, {Rule: 0, Place: 1}, {Rule: 1, Place: 0}, {Rule: 1, Place: 1}, {Rule: 1, Place: 2}}, [][]int{{0}, {0, 0, 0}}},
		{system(r(0, 1), r(0, 1)), []int{0}, []api.Step{{Rule: 0, Place: 0}, {Rule: 1, Place: 0}}, [][]int{{1}}},
		{system(r(1, 2)), []int{0}, nil, nil},
		// A place at which the word would be too long is none of a step.
		{system(r(-1, 0)), []int{0, 0, 0, 0, 0, 0, 0, 0}, nil, nil},
		{system(r(-1, 1, 1)), []int{0, 0, 0, 0, 0, 0, 0}, nil, nil},
		{system(r(-1, 1, 1), r(1)), []int{0, 0, 0, 0, 0, 0, 0, 1}, []api.Step{{Rule: 1, Place: 7}}, [][]int{{0, 0, 0, 0, 0, 0, 0}}},
		{system(r(0, 1, 1), r(0, 2)), []int{0, 3, 3, 3, 3, 3, 3, 3}, []api.Step{{Rule: 1, Place: 0}}, [][]int{{2, 3, 3, 3, 3, 3, 3, 3}}},
	} {
		if l, e := feed.Steps(c.s, c.w); !slices.Equal(l, c.steps) || e != api.OK {
			t.Errorf("%d: Steps %v %v", i, l, e)
		}
		if l, e := feed.Next(c.s, c.w); !same(l, c.next) || e != api.OK {
			t.Errorf("%d: Next %v %v", i, l, e)
		}
		if is, e := feed.IsEnd(c.s, c.w); is != (len(c.steps) == 0) || e != api.OK {
			t.Errorf("%d: IsEnd %v %v", i, is, e)
		}
	}
}

func TestCheckPath(t *testing.T) { // P3.3
	s := system(r(0, 1), r(1, 2), r(-1, 0, 0), between([]int{2}, 1, nil))
	for i, c := range []struct {
		w    []int
		path []api.Step
		end  []int
		n    int
		e    api.Errno
	}{
		{[]int{0, 3}, nil, []int{0, 3}, 0, api.OK},
		{nil, nil, nil, 0, api.OK},
		{[]int{0, 0}, []api.Step{{Rule: 0, Place: 1}, {Rule: 0, Place: 0}, {Rule: 1, Place: 0}, {Rule: 3, Place: 1}}, []int{2}, 4, api.OK},
		{nil, []api.Step{{Rule: 2, Place: 0}, {Rule: 2, Place: 2}}, []int{0, 0, 0, 0}, 2, api.OK},
		{[]int{0}, []api.Step{{Rule: 4, Place: 0}}, nil, 0, api.ErrNone},
		{[]int{0}, []api.Step{{Rule: -1, Place: 0}}, nil, 0, api.ErrNone},
		{[]int{0}, []api.Step{{Rule: 0, Place: 0}, {Rule: math.MaxInt, Place: math.MinInt}}, nil, 1, api.ErrNone},
		{[]int{0}, []api.Step{{Rule: 1, Place: 0}}, nil, 0, api.ErrRule},
		{[]int{0}, []api.Step{{Rule: 0, Place: 1}}, nil, 0, api.ErrRule},
		{[]int{0}, []api.Step{{Rule: 0, Place: -1}}, nil, 0, api.ErrRule},
		{[]int{0}, []api.Step{{Rule: 0, Place: math.MaxInt}}, nil, 0, api.ErrRule},
		// The words as they are then: the rule 0 has its place just once.
		{[]int{0}, []api.Step{{Rule: 0, Place: 0}, {Rule: 0, Place: 0}}, nil, 1, api.ErrRule},
		{[]int{0}, []api.Step{{Rule: 0, Place: 0}, {Rule: 1, Place: 0}, {Rule: 1, Place: 0}, {Rule: 9, Place: 0}}, nil, 2, api.ErrRule},
		// One by one: the first step with an error decides.
		{[]int{0}, []api.Step{{Rule: 3, Place: 0}, {Rule: 9, Place: 0}}, nil, 0, api.ErrRule},
		{[]int{0}, []api.Step{{Rule: 9, Place: 0}, {Rule: 3, Place: 0}}, nil, 0, api.ErrNone},
		// A word that would be too long.
		{[]int{4, 4, 4, 4, 4, 4, 4}, []api.Step{{Rule: 2, Place: 0}}, nil, 0, api.ErrRule},
		{[]int{4, 4, 4, 4, 4}, []api.Step{{Rule: 2, Place: 0}, {Rule: 2, Place: 0}}, nil, 1, api.ErrRule},
	} {
		if l, n, e := feed.CheckPath(s, c.w, c.path); !slices.Equal(l, c.end) || n != c.n || e != c.e {
			t.Errorf("%d: %v %d %v", i, l, n, e)
		}
	}
	if l, n, e := feed.CheckPath(nil, []int{0}, []api.Step{{}}); len(l) > 0 || n != 0 || e != api.ErrNone {
		t.Error(l, n, e)
	}
}

func TestCheckLongPath(t *testing.T) { // P3.3
	s := system(r(0, 1), r(1, 0))
	var path []api.Step
	for i := range 61 {
		path = append(path, api.Step{Rule: i % 2})
	}
	if l, n, e := feed.CheckPath(s, []int{0}, path[:60]); !slices.Equal(l, []int{0}) || n != 60 || e != api.OK {
		t.Error(l, n, e)
	}
	if l, n, e := feed.CheckPath(s, []int{0}, path); len(l) > 0 || n != 0 || e != api.ErrLarge {
		t.Error(l, n, e)
	}
	path[59].Rule = 2
	if l, n, e := feed.CheckPath(s, []int{0}, path[:60]); len(l) > 0 || n != 59 || e != api.ErrNone {
		t.Error(l, n, e)
	}
	if l, n, e := feed.CheckPath(s, []int{0}, path); len(l) > 0 || n != 0 || e != api.ErrLarge {
		t.Error(l, n, e)
	}
}

// TestCheckPathWalks goes the same ways through the words as the definition says.
func TestCheckPathWalks(t *testing.T) { // P3.3
	for i, s := range someSystems() {
		w := someWords()[i%len(someWords())]
		v := w
		var path []api.Step
		for len(path) < 10 {
			steps := stepsOf(s, v)
			if len(steps) == 0 {
				break
			}
			step := steps[(i+len(path))%len(steps)]
			v, _ = rule.Apply(s[step.Rule], v, step.Place)
			path = append(path, step)
		}
		if l, n, e := feed.CheckPath(s, w, path); !slices.Equal(l, v) || n != len(path) || e != api.OK {
			t.Fatalf("%v, %v, %v: %v %d %v, not %v", s, w, path, l, n, e, v)
		}
	}
}

func TestWithout(t *testing.T) { // P3.6
	for _, s := range someSystems() {
		before := copied(s)
		for k := range s {
			want := slices.Delete(copied(s), k, k+1)
			if l, e := feed.Without(s, k); !sameSystem(l, want) || e != api.OK {
				t.Fatalf("%v, %d: %v %v", s, k, l, e)
			}
			if !sameSystem(s, before) {
				t.Fatal("the system was changed:", s)
			}
		}
		for _, k := range []int{-1, len(s), math.MinInt, math.MaxInt} {
			if l, e := feed.Without(s, k); len(l) > 0 || e != api.ErrNone {
				t.Fatalf("%v, %d: %v %v", s, k, l, e)
			}
		}
	}
	for _, c := range badSystems() {
		for _, k := range []int{0, 1, -1, 9} {
			if l, e := feed.Without(c.value, k); len(l) > 0 || e != c.want {
				t.Errorf("%v, %d: %v %v", c.value, k, l, e)
			}
		}
	}
}

func TestMemoryOfWithout(t *testing.T) { // P3.6 with R5
	list := roomy(1, 2)
	s := system(api.Rule{From: 0, To: list, Left: list, Right: list}, r(0, 1), api.Rule{From: 3, To: list, Left: list, Right: roomy(-1, 0)})
	rest, _ := feed.Without(s, 1)
	if spoilAll([][]int{rest[0].To, rest[0].Left, rest[0].Right, rest[1].To, rest[1].Left, rest[1].Right}) {
		t.Error("lists of one result share their memory")
	}
	rest[0].From = 9
	if !slices.Equal(list[:4], []int{1, 2, 0, 0}) || s[0].From != 0 || !slices.Equal(s[2].Right, []int{-1, 0}) {
		t.Error("an argument was changed:", s)
	}
}

func TestMemoryOfWords(t *testing.T) { // P3.2, P3.3, P3.4, P3.6 with R5
	for _, s := range [][]api.Rule{
		nil, system(r(0, 1), r(0, 2)), system(r(0), r(1, 0, 0)), system(r(-1, 0), r(0, 1)), system(between(roomy(-1, 0), 0, roomy(0, 1), roomy(1, 2)...), api.Rule{From: 2, To: roomy()}),
	} {
		for _, w := range [][]int{roomy(), roomy(0), roomy(0, 0), roomy(0, 0, 1)} {
			kept, before := copied(s), slices.Clone(w[:cap(w)])
			path := append(make([]api.Step, 0, 5), stepsOf(s, w)[:min(1, len(stepsOf(s, w)))]...)
			pathBefore := slices.Clone(path[:cap(path)])
			next, _ := feed.Next(s, w)
			reach, _ := feed.Reach(s, w)
			ends, _ := feed.Ends(s, w)
			if spoilAll(next) || spoilAll(reach) || spoilAll(ends) {
				t.Errorf("%v, %v: words of one result share their memory", s, before)
			}
			one, _, _ := feed.One(s, w)
			spoil(one)
			end, _, _ := feed.CheckPath(s, w, nil)
			spoil(end)
			end, _, _ = feed.CheckPath(s, w, path)
			spoil(end)
			unused, _ := feed.Unused(s, w)
			spoil(unused)
			feed.Path(s, w, w)
			feed.Join(s, w, w)
			if !sameSystem(s, kept) || !slices.Equal(w[:cap(w)], before) || !slices.Equal(path[:cap(path)], pathBefore) {
				t.Errorf("%v, %v: an argument was changed: %v, %v, %v", kept, before, s, w[:cap(w)], path)
			}
		}
	}
}
