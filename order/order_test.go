package order_test

import (
	"math"
	"slices"
	"testing"

	"vyakarana/api"
	"vyakarana/feed"
	"vyakarana/order"
)

func TestValidate(t *testing.T) { // P4.1
	if len(someGrounds()) != 65 || len(fourGrounds()) != 24 {
		t.Fatal("not all grounds:", len(someGrounds()), len(fourGrounds()))
	}
	for _, g := range someGrounds() {
		if e := order.Validate(g); e != api.OK {
			t.Errorf("%v: %v", g, e)
		}
	}
	for _, c := range badGrounds() {
		if e := order.Validate(c.value); e != c.want {
			t.Errorf("%v: %v, not %v", c.value, e, c.want)
		}
	}
}

// refusal returns a check of one call: that it returned the error and nothing else.
func refusal(t *testing.T, want api.Errno, arguments ...any) func(name string, e api.Errno, zero bool) {
	return func(name string, e api.Errno, zero bool) {
		t.Helper()
		if e != want || !zero {
			t.Errorf("%s: %v: %v, not %v; zero: %v", name, arguments, e, want, zero)
		}
	}
}

// errorsOfWord calls all functions with a system and a word, and no grounds.
func errorsOfWord(t *testing.T, s []api.Rule, w []int, want api.Errno) {
	t.Helper()
	check := refusal(t, want, s, w)
	for _, b := range []api.Step{at(0, 0), at(9, -1)} {
		is, e := order.Lasts(s, w, at(0, 0), b)
		check("Lasts", e, !is)
		for _, ground := range []int{1, 0, 5} {
			n, e := order.Decide(s, w, ground, at(0, 0), b)
			check("Decide", e, n == 0)
		}
	}
	forms, e := order.Forms(s, w)
	check("Forms", e, len(forms) == 0)
}

// errorsOfGrounds calls all functions with a system, a word and grounds.
func errorsOfGrounds(t *testing.T, s []api.Rule, w, g []int, want api.Errno) {
	t.Helper()
	check := refusal(t, want, s, w, g)
	for _, b := range []api.Step{at(0, 0), at(9, -1)} {
		n, e := order.Beats(s, w, g, at(0, 0), b)
		check("Beats", e, n == 0)
	}
	c, ok, e := order.Winner(s, w, g)
	check("Winner", e, c == api.Choice{} && !ok)
	is, e := order.IsClear(s, w, g)
	check("IsClear", e, !is)
	choices, form, e := order.Derive(s, w, g)
	check("Derive", e, len(choices)+len(form) == 0)
	form, e = order.Form(s, w, g)
	check("Form", e, len(form) == 0)
	for _, l := range [][]api.Choice{nil, {choice(9, 9, 9)}, make([]api.Choice, 61)} {
		n, e := order.CheckDerivation(s, w, g, l)
		check("CheckDerivation", e, n == 0)
	}
	used, e := order.Used(s, w, g)
	check("Used", e, len(used) == 0)
	needless, e := order.Needless(s, w, g)
	check("Needless", e, len(needless) == 0)
	for _, h := range [][]int{nil, {0}, {1, 1}, {1, 2, 3, 4, 5}} {
		n, ok, e := order.Differ(s, w, g, h)
		check("Differ", e, n == 0 && !ok)
	}
}

// errorsOfBases calls Bases also with numbers that are wrong themselves.
func errorsOfBases(t *testing.T, s []api.Rule, g, form []int, want api.Errno) {
	t.Helper()
	for _, n := range [][2]int{{2, 2}, {0, 2}, {2, 5}} {
		bases, e := order.Bases(s, g, form, n[0], n[1])
		refusal(t, want, s, g, form, n)("Bases", e, len(bases) == 0)
	}
}

func TestErrors(t *testing.T) { // P4.1 with R1 and R3
	for _, s := range badSystems() {
		for _, w := range append(badWords(), refused[[]int]{}) {
			errorsOfWord(t, s.value, w.value, s.want)
			for _, g := range append(badGrounds(), refused[[]int]{}) {
				errorsOfGrounds(t, s.value, w.value, g.value, s.want)
				errorsOfBases(t, s.value, g.value, w.value, s.want)
			}
		}
	}
	for _, s := range [][]api.Rule{nil, round()} {
		for _, w := range badWords() {
			errorsOfWord(t, s, w.value, w.want)
			errorsOfBases(t, s, []int{1, 2}, w.value, w.want)
			for _, g := range append(badGrounds(), refused[[]int]{}) {
				errorsOfGrounds(t, s, w.value, g.value, w.want)
			}
		}
		for _, g := range badGrounds() {
			for _, w := range [][]int{nil, {0}, {5, 5}} {
				errorsOfGrounds(t, s, w, g.value, g.want)
				n, ok, e := order.Differ(s, w, []int{2, 1}, g.value)
				refusal(t, g.want, s, w, g.value)("Differ", e, n == 0 && !ok)
			}
			for _, form := range append(badWords(), refused[[]int]{}) {
				errorsOfBases(t, s, g.value, form.value, g.want)
			}
		}
	}
}

func TestErrorsOfDiffer(t *testing.T) { // P4.1: the errors of g, then those of h
	for _, g := range badGrounds() {
		for _, h := range badGrounds() {
			if n, ok, e := order.Differ(round(), []int{0}, g.value, h.value); n != 0 || ok || e != g.want {
				t.Errorf("%v, %v: %d %v %v", g.value, h.value, n, ok, e)
			}
		}
	}
}

// pairs calls the functions with steps a and b, and checks that they return the error and nothing else.
func pairs(t *testing.T, s []api.Rule, w []int, a, b api.Step, want api.Errno) {
	t.Helper()
	check := refusal(t, want, s, w, a, b)
	is, e := order.Lasts(s, w, a, b)
	check("Lasts", e, !is)
	n, e := order.Beats(s, w, []int{3, 4}, a, b)
	check("Beats", e, n == 0)
	for _, ground := range []int{1, 2, 3, 4, 0, 5, -1} {
		n, e := order.Decide(s, w, ground, a, b)
		check("Decide", e, n == 0)
	}
}

func TestErrorsOfSteps(t *testing.T) { // P4.1
	s := system(r(0, 1), r(1, 2), r(0, 3, 3))
	w := []int{0, 1, 0}
	none := []api.Step{at(-1, 0), at(3, 0), at(0, 1), at(0, 3), at(0, -1), at(1, 0), at(2, 1), at(math.MaxInt, math.MinInt)}
	for _, a := range none {
		for _, b := range append(none, at(0, 0), at(1, 1)) {
			pairs(t, s, w, a, b, api.ErrNone)
			pairs(t, s, w, b, a, api.ErrNone)
		}
	}
	for _, a := range []api.Step{at(0, 0), at(0, 2), at(1, 1), at(2, 0), at(2, 2)} {
		pairs(t, s, w, a, a, api.ErrTwice)
	}
	// A place at which the word would become too long is no candidate.
	pairs(t, s, []int{0, 0, 0, 0, 0, 0, 0, 0}, at(0, 0), at(2, 0), api.ErrNone)
	pairs(t, s, []int{0, 0, 0, 0, 0, 0, 0, 0}, at(2, 1), at(2, 1), api.ErrNone)
	pairs(t, nil, nil, at(0, 0), at(0, 0), api.ErrNone)
}

func TestErrorsOfDecide(t *testing.T) { // P4.2
	for _, ground := range []int{0, 5, -1, math.MinInt, math.MaxInt} {
		if n, e := order.Decide(round(), []int{0, 1}, ground, at(0, 0), at(1, 1)); n != 0 || e != api.ErrArg {
			t.Errorf("%d: %d %v", ground, n, e)
		}
	}
}

func TestLastsByHand(t *testing.T) { // P4.2
	for i, c := range []struct {
		s    []api.Rule
		w    []int
		a, b api.Step
		want bool
	}{
		// At one place: who comes first takes the sound away, if it does not stay.
		{system(r(0, 1), r(0, 2)), []int{0}, at(0, 0), at(1, 0), false},
		{system(r(0, 1), r(0, 0, 0)), []int{0}, at(0, 0), at(1, 0), true},
		{system(r(0, 1), r(0, 0, 0)), []int{0}, at(1, 0), at(0, 0), false},
		// What b puts in at the place of a stands at this place then.
		{system(r(0, 1), r(-1, 2)), []int{0}, at(0, 0), at(1, 0), false},
		{system(r(0, 1), r(-1, 0)), []int{0}, at(0, 0), at(1, 0), true},
		{system(r(0, 1), r(0)), []int{0, 0}, at(0, 0), at(1, 0), true},
		// b in front of a: a has moved.
		{system(r(0, 1), r(3)), []int{3, 0, 4}, at(0, 1), at(1, 0), true},
		{system(r(0, 1), r(3, 5)), []int{3, 0, 4}, at(0, 1), at(1, 0), true},
		{system(r(0, 1), r(3, 5, 5)), []int{3, 0, 4}, at(0, 1), at(1, 0), true},
		{system(r(0, 1), r(-1, 5)), []int{3, 0, 4}, at(0, 1), at(1, 0), true},
		{system(r(0, 1), r(-1, 5, 5)), []int{3, 0, 4}, at(0, 1), at(1, 0), true},
		{system(r(-1, 1), r(3)), []int{4, 3}, at(0, 2), at(1, 1), true},
		// b behind a, also just behind it: a has not moved.
		{system(r(0, 1), r(3)), []int{0, 3}, at(0, 0), at(1, 1), true},
		{system(r(0, 1), r(-1, 5, 5)), []int{0, 0}, at(0, 0), at(1, 1), true},
		{system(r(0, 1), r(-1, 5, 5)), []int{0, 0}, at(0, 0), at(1, 2), true},
		// Neighbors are those of the word after b.
		{system(between([]int{3}, 0, nil, 1), r(3, 4)), []int{3, 0}, at(0, 1), at(1, 0), false},
		{system(between(nil, 0, []int{3}, 1), r(3)), []int{0, 3}, at(0, 0), at(1, 1), false},
		{system(between(nil, 0, []int{3}, 1), r(3)), []int{0, 3, 3}, at(0, 0), at(1, 1), true},
		{system(between([]int{-1}, 0, nil, 1), r(-1, 2)), []int{0, 3}, at(0, 0), at(1, 1), true},
		{system(between([]int{3}, 0, nil, 1), r(-1, 2)), []int{3, 0}, at(0, 1), at(1, 1), false},
		{system(between([]int{3}, 0, nil, 1), r(-1, 2)), []int{3, 0}, at(0, 1), at(1, 0), true},
		// A place at which the word would become too long is no step.
		{system(r(0, 1, 1), r(-1, 2)), []int{0, 3, 3, 3, 3, 3, 3}, at(0, 0), at(1, 7), false},
		{system(r(0, 1, 1), r(-1, 2)), []int{0, 3, 3, 3, 3, 3}, at(0, 0), at(1, 6), true},
	} {
		if is, e := order.Lasts(c.s, c.w, c.a, c.b); is != c.want || e != api.OK {
			t.Errorf("%d: %v %v", i, is, e)
		}
	}
}

func TestDecideByHand(t *testing.T) { // P4.2
	// 0 becomes 1 anywhere, 2 in front, 3 anywhere, too, and 4 before 5; 5 is left out; 0 is put in before 0.
	all := []int{-1, 0, 1, 2, 3, 4, 5}
	s := system(r(0, 1), between([]int{-1}, 0, nil, 2), between(all, 0, nil, 3), between(nil, 0, []int{5}, 4), r(5), between(nil, -1, []int{0}, 0))
	for i, c := range []struct {
		w      []int
		ground int
		a, b   api.Step
		want   int
	}{
		{[]int{0, 5}, 1, at(1, 0), at(0, 0), 1},
		{[]int{0, 5}, 1, at(0, 0), at(3, 0), -1},
		{[]int{0, 5}, 1, at(2, 0), at(3, 0), -1},
		// Neither, or each, is special of the other one.
		{[]int{0, 5}, 1, at(1, 0), at(3, 0), 0},
		{[]int{0, 5}, 1, at(0, 0), at(2, 0), 0},
		{[]int{0, 5}, 1, at(2, 0), at(0, 0), 0},
		{[]int{0, 5}, 1, at(5, 0), at(0, 0), 0},
		// Not at one place.
		{[]int{0, 0}, 1, at(1, 0), at(0, 1), 0},
		{[]int{0, 0, 5}, 1, at(0, 0), at(3, 1), 0},
		// Without 5 nothing becomes 4, but 5 is left out behind 4, too.
		{[]int{0, 5}, 2, at(4, 1), at(3, 0), 1},
		{[]int{0, 5}, 2, at(3, 0), at(4, 1), -1},
		{[]int{0, 5}, 2, at(1, 0), at(5, 0), 1},
		{[]int{0, 5}, 2, at(5, 0), at(0, 0), -1},
		// Neither lasts, or both do.
		{[]int{0, 5}, 2, at(0, 0), at(1, 0), 0},
		{[]int{5, 0}, 2, at(4, 0), at(0, 1), 0},
		{[]int{0, 5}, 2, at(4, 1), at(1, 0), 0},
		{[]int{0, 5}, 3, at(4, 1), at(0, 0), -1},
		{[]int{0, 5}, 3, at(0, 0), at(4, 1), 1},
		{[]int{0, 5}, 3, at(0, 0), at(1, 0), 0},
		{[]int{0, 5}, 4, at(4, 1), at(0, 0), 1},
		{[]int{0, 5}, 4, at(0, 0), at(4, 1), -1},
		{[]int{0, 0}, 4, at(0, 0), at(0, 1), 0},
	} {
		if n, e := order.Decide(s, c.w, c.ground, c.a, c.b); n != c.want || e != api.OK {
			t.Errorf("%d: %d %v, not %d", i, n, e, c.want)
		}
	}
}

// beatsBothWays compares two candidates by some grounds, and with a and b exchanged.
func beatsBothWays(t *testing.T, x task, g []int, a, b api.Step) int {
	t.Helper()
	want := beatsOf(x.s, x.w, g, a, b)
	n, e := order.Beats(x.s, x.w, g, a, b)
	m, f := order.Beats(x.s, x.w, g, b, a)
	if n != want || m != -want || e != api.OK || f != api.OK {
		t.Fatalf("%v, %v, %v: %v, %v: %d %v, %d %v, not %d", x.s, x.w, g, a, b, n, e, m, f, want)
	}
	if n == 0 && slices.Contains(g, 3) && slices.Contains(g, 4) {
		t.Fatalf("%v, %v, %v: %v, %v: 0", x.s, x.w, g, a, b)
	}
	return n
}

// decideAll compares two candidates by each ground.
func decideAll(t *testing.T, x task, a, b api.Step) {
	t.Helper()
	if is, e := order.Lasts(x.s, x.w, a, b); is != lastsOf(x.s, x.w, a, b) || e != api.OK {
		t.Fatalf("Lasts: %v, %v: %v, %v: %v %v", x.s, x.w, a, b, is, e)
	}
	for g := 1; g <= 4; g++ {
		want := 0
		if decidesFor(x.s, x.w, g, a, b) {
			want = 1
		} else if decidesFor(x.s, x.w, g, b, a) {
			want = -1
		}
		if n, e := order.Decide(x.s, x.w, g, a, b); n != want || e != api.OK {
			t.Fatalf("Decide %d: %v, %v: %v, %v: %d %v, not %d", g, x.s, x.w, a, b, n, e, want)
		}
	}
}

func TestBeats(t *testing.T) { // P4.2
	grounds := someGrounds()
	found := map[int]int{}
	for i, x := range someTasks() {
		steps, _ := feed.Steps(x.s, x.w)
		for j, a := range steps {
			for k, b := range steps {
				if a != b && (i+j+k)%3 == 0 {
					decideAll(t, x, a, b)
					found[beatsBothWays(t, x, grounds[(7*i+5*j+k)%len(grounds)], a, b)]++
				}
			}
		}
	}
	for n := -4; n <= 4; n++ {
		if found[n] < 10 {
			t.Errorf("%d comes too seldom: %v", n, found)
		}
	}
}

func TestBeatsByHand(t *testing.T) { // P4.2
	s, w := system(r(0, 1), between([]int{-1}, 0, nil, 2)), []int{0, 0}
	for i, c := range []struct {
		grounds []int
		a, b    api.Step
		want    int
	}{
		{nil, at(0, 0), at(1, 0), 0},
		{[]int{1}, at(1, 0), at(0, 0), 1},
		{[]int{1}, at(0, 0), at(1, 0), -1},
		{[]int{1}, at(0, 0), at(0, 1), 0},
		// The first ground that decides, not the first one of the list.
		{[]int{1, 3, 4}, at(1, 0), at(0, 1), 3},
		{[]int{2, 4, 3}, at(0, 1), at(1, 0), -4},
		{[]int{3, 4}, at(0, 1), at(1, 0), -3},
		{[]int{3, 4}, at(0, 0), at(1, 0), -4},
		{[]int{2}, at(0, 1), at(0, 0), 0},
	} {
		if n, e := order.Beats(s, w, c.grounds, c.a, c.b); n != c.want || e != api.OK {
			t.Errorf("%d: %d %v, not %d", i, n, e, c.want)
		}
	}
}

func TestWinner(t *testing.T) { // P4.3
	grounds := someGrounds()
	count := map[bool]int{}
	for i, x := range someTasks() {
		steps, _ := feed.Steps(x.s, x.w)
		for k := range 12 {
			g := grounds[(i+11*k)%len(grounds)]
			want, clear := api.Choice{}, true
			if len(steps) > 0 {
				want, clear = winnerOf(x.s, x.w, g, steps)
			}
			if c, ok, e := order.Winner(x.s, x.w, g); c != want || ok != (len(steps) > 0) || e != api.OK {
				t.Fatalf("Winner: %v, %v, %v: %v %v %v, not %v", x.s, x.w, g, c, ok, e, want)
			}
			if is, e := order.IsClear(x.s, x.w, g); is != clear || e != api.OK {
				t.Fatalf("IsClear: %v, %v, %v: %v %v", x.s, x.w, g, is, e)
			}
			count[clear]++
		}
	}
	if count[true] < 100 || count[false] < 100 {
		t.Error("the systems do not show enough:", count)
	}
}

func TestWinnerByHand(t *testing.T) { // P4.3, with the chapter's examples
	special := system(r(0, 1), between([]int{-1}, 0, nil, 2))
	turned := system(special[1], special[0])
	two := system(r(0, 1), r(0, 2))
	for i, c := range []struct {
		s       []api.Rule
		w       []int
		grounds []int
		want    api.Choice
		ok      bool
		clear   bool
	}{
		{nil, []int{0}, nil, api.Choice{}, false, true},
		{two, nil, []int{3, 4}, api.Choice{}, false, true},
		{special, []int{0}, []int{1}, choice(1, 0, 1), true, true},
		{special, []int{0}, []int{4}, choice(1, 0, 4), true, true},
		{turned, []int{0}, []int{1}, choice(0, 0, 1), true, true},
		{turned, []int{0}, []int{4}, choice(1, 0, 4), true, true},
		{turned, []int{0}, []int{4, 1}, choice(1, 0, 4), true, true},
		{two, []int{0, 0}, []int{3, 4}, choice(1, 0, 4), true, true},
		{two, []int{0, 0}, []int{4, 3}, choice(1, 0, 4), true, true},
		// A candidate alone has no ground.
		{two[:1], []int{0}, []int{1, 2, 3, 4}, choice(0, 0, 0), true, true},
		// The first other candidate of the first one is the second one.
		{two[:1], []int{0, 0, 0}, []int{4, 3}, choice(0, 0, 3), true, true},
		// The last one, if none beats all others, also if another one beats it.
		{two, []int{0, 0}, nil, choice(1, 1, 0), true, false},
		{two, []int{0, 0}, []int{3}, choice(1, 1, 0), true, false},
		{two, []int{0, 0}, []int{4}, choice(1, 1, 0), true, false},
		{special, []int{0, 0}, []int{1}, choice(1, 0, 0), true, false},
		{system(special[1], special[0], r(0, 3)), []int{0}, []int{1}, choice(0, 0, 1), true, true},
		// The ground by which the first other one is beaten, not another one.
		{special, []int{0, 0}, []int{1, 3}, choice(1, 0, 1), true, true},
		{turned, []int{0, 0}, []int{3, 1}, choice(0, 0, 1), true, true},
		{special, []int{0, 0}, []int{3, 1}, choice(1, 0, 1), true, true},
		{system(special[0], r(5), special[1]), []int{0, 5}, []int{3, 1}, choice(2, 0, 1), true, true},
		{system(r(5), special[0], special[1]), []int{0, 5}, []int{3, 1}, choice(2, 0, 3), true, true},
	} {
		if x, ok, e := order.Winner(c.s, c.w, c.grounds); x != c.want || ok != c.ok || e != api.OK {
			t.Errorf("%d: Winner %v %v %v, not %v", i, x, ok, e, c.want)
		}
		if is, e := order.IsClear(c.s, c.w, c.grounds); is != c.clear || e != api.OK {
			t.Errorf("%d: IsClear %v %v", i, is, e)
		}
	}
}

func TestCircle(t *testing.T) { // P4.3: each of three candidates beats another one
	s, w, g := system(between([]int{-1}, 0, nil, 1), r(5, 4), r(0, 2)), []int{0, 5}, []int{1, 4}
	for i, c := range []struct {
		a, b api.Step
		want int
	}{{at(0, 0), at(2, 0), 1}, {at(2, 0), at(1, 1), 4}, {at(1, 1), at(0, 0), 4}} {
		if n, e := order.Beats(s, w, g, c.a, c.b); n != c.want || e != api.OK {
			t.Errorf("%d: %d %v", i, n, e)
		}
	}
	if is, e := order.IsClear(s, w, g); is || e != api.OK {
		t.Error(is, e)
	}
	if c, ok, e := order.Winner(s, w, g); c != choice(2, 0, 0) || !ok || e != api.OK {
		t.Error(c, ok, e)
	}
}

func TestWithout(t *testing.T) { // P4.6
	for _, g := range someGrounds() {
		for ground := -1; ground <= 6; ground++ {
			i := slices.Index(g, ground)
			rest, e := order.Without(g, ground)
			front, f := order.First(g, ground)
			if i < 0 {
				if len(rest)+len(front) > 0 || e != api.ErrNone || f != api.ErrNone {
					t.Errorf("%v, %d: %v %v, %v %v", g, ground, rest, e, front, f)
				}
				continue
			}
			want := slices.Delete(slices.Clone(g), i, i+1)
			if !slices.Equal(rest, want) || e != api.OK {
				t.Errorf("Without: %v, %d: %v %v", g, ground, rest, e)
			}
			if !slices.Equal(front, append([]int{ground}, want...)) || f != api.OK {
				t.Errorf("First: %v, %d: %v %v", g, ground, front, f)
			}
		}
	}
	for _, c := range badGrounds() {
		for _, ground := range []int{1, 4, 0, 9} {
			rest, e := order.Without(c.value, ground)
			front, f := order.First(c.value, ground)
			if len(rest)+len(front) > 0 || e != c.want || f != c.want {
				t.Errorf("%v, %d: %v %v, %v %v", c.value, ground, rest, e, front, f)
			}
		}
	}
}

func TestMemoryOfGrounds(t *testing.T) { // P4.6 with R5
	g := roomy(3, 1, 4)
	rest, _ := order.Without(g, 1)
	spoil(rest)
	front, _ := order.First(g, 4)
	spoil(front)
	front, _ = order.First(g, 3)
	spoil(front)
	if !slices.Equal(g[:5], []int{3, 1, 4, 0, 0}) {
		t.Error("an argument was changed:", g[:5])
	}
}
