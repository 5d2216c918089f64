package school_test

import (
	"slices"
	"strings"
	"testing"

	"vyakarana/api"
	"vyakarana/school"
)

// isWord checks the word of a school.
func isWord(t *testing.T, h *school.School, want ...int) {
	t.Helper()
	if w, ok := h.Word(); !slices.Equal(w, want) || !ok {
		t.Fatalf("after %q: %v %v, not %v", h.Book(), w, ok, want)
	}
}

// isSlate checks the slate of a school.
func isSlate(t *testing.T, h *school.School, want ...api.Choice) {
	t.Helper()
	if l := h.Slate(); !slices.Equal(l, want) {
		t.Fatalf("after %q: %v, not %v", h.Book(), l, want)
	}
}

func TestExamples(t *testing.T) { // P9.1, P9.2, the chapter's examples
	h := made(t, chain(), "learn 0", "read 00", "step")
	isWord(t, h, 0, 1)
	done(t, h, "say", api.ErrRule)
	done(t, h, "end", api.OK)
	isWord(t, h, 1, 1)
	done(t, h, "say", api.OK)
	done(t, h, "learn 1", api.OK)
	if h.Ended() {
		t.Error("no candidates again")
	}
	done(t, h, "end", api.OK)
	isWord(t, h, 2, 2)
	isSlate(t, h, choice(0, 1, 0), choice(0, 0, 0), choice(1, 1, 0), choice(1, 0, 0))
	done(t, h, "undo", api.OK)
	isWord(t, h, 1, 2)
	isSlate(t, h, choice(0, 1, 0), choice(0, 0, 0), choice(1, 1, 0))
	if book, e := school.Write([]string{"say"}); book != "686971 say\n" || e != api.OK {
		t.Error(book, e)
	}
}

func TestSyntax(t *testing.T) { // the chapter's section Orders
	long := strings.Repeat("0", 31)
	var full []string
	for range 50 {
		full = append(full, "switch 1", "switch 1")
	}
	// A text that is no order is that also in a school that does no order any more.
	schools := []*school.School{made(t, chain()), made(t, chain(), "learn 0", "read 0"), made(t, chain(), full...)}
	for _, o := range []string{
		"", " ", "\n", "x", "Learn 0", "learn0", "learn", "learn ", "learn  0", " learn 0", "learn 0 ", "learn 0 0", "learn\t0", "learn 0\n", "\nlearn 0", "learn\n0",
		"learn -1", "learn -0", "learn +1", "learn 00", "learn 01", "learn 1.", "learn 0x1", "learn 1_0", "learn 100", "learn 256", "learn 18446744073709551616", "learn x", "learn \u0661",
		"forget", "forget 007", "forget 100", "forget -1", "switch", "switch 01", "switch -1", "switch 100", "switch 1 2", "unlearn 0", "lear 0", "learns 0", "Switch 1",
		"read", "read ", "read  0", "read 6", "read 06", "read /", "read :", "read 000000000", "read 0 0", "read -0", "read 0 ", "read 0\n", "read \u0661", "read a", "reads 0",
		"step ", " step", "step 1", "STEP", "ste", "steps", "step\n", "step\x00", "end ", "end 0", "undo ", "undo 1", "say ", "say 0", "say\r", "say say", "end\tend",
		"say" + strings.Repeat(" ", 27), "say" + strings.Repeat(" ", 28), "learn " + long, "read " + long, long, strings.Repeat("learn 0", 100), "step\nstep", "\xff", "say\xff",
	} {
		for _, h := range schools {
			before := look(h)
			done(t, h, o, api.ErrSyntax)
			if !look(h).equals(before) {
				t.Fatalf("%q changed something", o)
			}
		}
	}
}

func TestLearn(t *testing.T) { // P9.1
	h := made(t, tree())
	for _, k := range []string{"3", "0", "5"} {
		done(t, h, "forget "+k, api.ErrState)
		done(t, h, "learn "+k, api.OK)
		done(t, h, "learn "+k, api.ErrTwice)
	}
	for _, k := range []string{"6", "7", "10", "99"} {
		done(t, h, "learn "+k, api.ErrNone)
		done(t, h, "forget "+k, api.ErrNone)
	}
	if l := h.Learned(); !slices.Equal(l, []int{0, 3, 5}) {
		t.Error(l)
	}
	done(t, h, "forget 3", api.OK)
	done(t, h, "forget 3", api.ErrState)
	done(t, h, "learn 4", api.OK)
	if l := h.Learned(); !slices.Equal(l, []int{0, 4, 5}) {
		t.Error(l)
	}
	none := made(t, nil)
	done(t, none, "learn 0", api.ErrNone)
	done(t, none, "forget 0", api.ErrNone)
}

func TestSwitch(t *testing.T) { // P9.1
	h := made(t, nil)
	for _, c := range []struct {
		ground string
		want   []int
	}{{"3", []int{3}}, {"4", []int{3, 4}}, {"1", []int{3, 4, 1}}, {"4", []int{3, 1}}, {"2", []int{3, 1, 2}}, {"4", []int{3, 1, 2, 4}}, {"3", []int{1, 2, 4}}, {"3", []int{1, 2, 4, 3}}} {
		done(t, h, "switch "+c.ground, api.OK)
		if g := h.Grounds(); !slices.Equal(g, c.want) {
			t.Error(c, g)
		}
	}
	for _, g := range []string{"0", "5", "9", "10", "99"} {
		done(t, h, "switch "+g, api.ErrNone)
	}
}

func TestReadOrder(t *testing.T) { // P9.1
	h := made(t, chain(), "learn 0", "switch 3", "read 00", "end", "say")
	for _, c := range []struct {
		order string
		want  []int
	}{{"read 5", []int{5}}, {"read 00", []int{0, 0}}, {"read 01234543", []int{0, 1, 2, 3, 4, 5, 4, 3}}} {
		done(t, h, c.order, api.OK)
		isWord(t, h, c.want...)
		isSlate(t, h)
		done(t, h, "undo", api.ErrState)
		done(t, h, "end", api.OK)
		if w, ok := h.Base(); !slices.Equal(w, c.want) || !ok {
			t.Error(c.order, w, ok)
		}
	}
	if !slices.Equal(h.Learned(), []int{0}) || !slices.Equal(h.Grounds(), []int{3}) || len(h.Forms()) != 1 {
		t.Error("read changed more than the word")
	}
}

func TestOnTheWay(t *testing.T) { // P9.1: a slate that has begun stays as it is
	h := made(t, system(r(5, 4), r(0, 1), between([]int{-1}, 0, nil, 2)), "learn 1", "read 00", "step")
	first := choice(1, 1, 0)
	isSlate(t, h, first)
	for _, o := range []string{"learn 0", "learn 2", "switch 1", "forget 1", "switch 3"} {
		done(t, h, o, api.OK)
		isSlate(t, h, first)
		isWord(t, h, 0, 1)
	}
	done(t, h, "step", api.OK)
	isSlate(t, h, first, choice(2, 0, 0))
	isWord(t, h, 2, 1)
	done(t, h, "say", api.OK)
	done(t, h, "forget 2", api.OK)
	// What was done by rules that are forgotten now is taken back all the same.
	done(t, h, "undo", api.OK)
	isWord(t, h, 0, 1)
	done(t, h, "undo", api.OK)
	isWord(t, h, 0, 0)
	done(t, h, "undo", api.ErrState)
	isSlate(t, h)
}

func TestStep(t *testing.T) { // P9.2: the winner is that of the learned rules, by the grounds
	s := system(r(5, 4), r(0, 1), r(4, 3), r(0, 2), between([]int{-1}, 0, nil, 3))
	for _, c := range []struct {
		orders []string
		want   api.Choice
		word   []int
	}{
		{nil, choice(3, 1, 0), []int{0, 2}},
		{[]string{"switch 3", "switch 4"}, choice(3, 0, 4), []int{2, 0}},
		{[]string{"switch 4", "switch 3"}, choice(3, 0, 4), []int{2, 0}},
		{[]string{"switch 3"}, choice(3, 1, 0), []int{0, 2}},
		{[]string{"forget 3"}, choice(1, 1, 0), []int{0, 1}},
		{[]string{"forget 3", "switch 3"}, choice(1, 0, 3), []int{1, 0}},
		{[]string{"learn 4", "switch 3", "switch 1"}, choice(4, 0, 1), []int{3, 0}},
		{[]string{"learn 4", "forget 1", "forget 3", "switch 1"}, choice(4, 0, 0), []int{3, 0}},
		{[]string{"learn 4", "forget 1", "switch 3", "switch 4"}, choice(4, 0, 4), []int{3, 0}},
	} {
		h := made(t, s, append(append([]string{"learn 3", "learn 1"}, c.orders...), "read 00", "step")...)
		isSlate(t, h, c.want)
		isWord(t, h, c.word...)
	}
}

func TestWithoutWord(t *testing.T) { // P9.2, P9.3
	h := made(t, chain(), "learn 0", "switch 3")
	before := look(h)
	for _, o := range []string{"step", "end", "undo", "say"} {
		done(t, h, o, api.ErrState)
	}
	if s := look(h); !s.equals(before) || s.hasBase || s.hasWord || s.ended || len(s.base)+len(s.word)+len(s.slate)+len(s.forms) > 0 {
		t.Error(s)
	}
}

func TestSay(t *testing.T) { // P9.2
	h := made(t, system(r(0), r(1, 0), r(3, 3, 3)), "read 3", "say", "learn 0", "learn 1", "learn 2", "read 10")
	done(t, h, "say", api.ErrRule)
	done(t, h, "end", api.OK)
	isWord(t, h)
	done(t, h, "say", api.OK)
	done(t, h, "say", api.ErrTwice)
	// What was said stays said, whatever is learned; and it counts how the word came to be no more.
	done(t, h, "read 3", api.OK)
	done(t, h, "say", api.ErrRule)
	done(t, h, "forget 2", api.OK)
	done(t, h, "say", api.ErrTwice)
	done(t, h, "read 23", api.OK)
	done(t, h, "say", api.OK)
	// There is no step by which a word would become too long.
	done(t, h, "learn 2", api.OK)
	done(t, h, "read 33333333", api.OK)
	if !h.Ended() {
		t.Error("a word that is as long as may be has a candidate")
	}
	done(t, h, "step", api.ErrRule)
	done(t, h, "say", api.OK)
	if f := h.Forms(); !slices.EqualFunc(f, [][]int{{3}, {}, {2, 3}, {3, 3, 3, 3, 3, 3, 3, 3}}, slices.Equal) {
		t.Error(f)
	}
}

func TestEnd(t *testing.T) { // P9.2
	h := made(t, chain(), "read 1", "end")
	isWord(t, h, 1)
	isSlate(t, h)
	done(t, h, "learn 1", api.OK)
	done(t, h, "end", api.OK)
	done(t, h, "end", api.OK)
	isWord(t, h, 2)
	isSlate(t, h, choice(1, 0, 0))
	done(t, h, "step", api.ErrRule)
}

func TestMaxSteps(t *testing.T) { // P9.2
	h := made(t, tree(), append(sixty(), "end")...)
	if l := h.Slate(); len(l) != 60 {
		t.Fatal(l)
	}
	isWord(t, h)
	// Without a candidate, a full slate is no reason to refuse.
	done(t, h, "step", api.ErrRule)
	done(t, h, "end", api.OK)
	done(t, h, "undo", api.OK)
	isWord(t, h, 5)
	done(t, h, "step", api.OK)
	done(t, h, "say", api.OK)

	h = made(t, tree(), sixtyOne()...)
	for n := range 60 {
		if n%7 == 0 {
			before := look(h)
			done(t, h, "end", api.ErrLarge)
			if !look(h).equals(before) {
				t.Fatal("a refused order changed something")
			}
		}
		done(t, h, "step", api.OK)
	}
	isWord(t, h, 5)
	done(t, h, "step", api.ErrLarge)
	done(t, h, "end", api.ErrLarge)
	done(t, h, "say", api.ErrRule)
	done(t, h, "forget 5", api.OK)
	done(t, h, "step", api.ErrRule)
	done(t, h, "end", api.OK)
	done(t, h, "undo", api.OK)
	isWord(t, h, 5, 5)
	if l := h.Slate(); len(l) != 59 || !h.Audit() {
		t.Error(l)
	}
	for _, o := range []string{"read 0", "read 1"} {
		h = made(t, round(), "learn 0", "learn 1", o, "step")
		done(t, h, "end", api.ErrLarge)
		done(t, h, "forget 0", api.OK)
		done(t, h, "end", api.OK)
		isWord(t, h, 0)
	}
}

func TestMaxPages(t *testing.T) { // the chapter's section Orders
	h := made(t, chain(), append([]string{"learn 0"}, times(98, "read 0")...)...)
	done(t, h, "learn 5", api.ErrNone)
	done(t, h, "step", api.OK)
	before := look(h)
	if n := strings.Count(before.book, "\n"); n != 100 {
		t.Fatal(n)
	}
	// That the book is full is named before what is wrong with an order, but behind its syntax.
	for _, o := range []string{"learn 0", "learn 1", "learn 9", "forget 1", "switch 9", "read 0", "step", "end", "undo", "say"} {
		done(t, h, o, api.ErrLarge)
	}
	done(t, h, "read 9", api.ErrSyntax)
	if !look(h).equals(before) || !h.Audit() {
		t.Error("a refused order changed something")
	}
}
