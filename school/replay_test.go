package school_test

import (
	"slices"
	"strings"
	"testing"

	"vyakarana/api"
	"vyakarana/school"
)

func TestReplay(t *testing.T) { // P9.3, P9.5, S9: also of the first lines of a book
	for i, s := range someSystems() {
		for k := range 6 {
			h := made(t, s)
			before := []seen{look(h)}
			for _, o := range someOrders(int64(1000+10*i+k), 120) {
				if h.Do(o) == api.OK {
					before = append(before, look(h))
				}
			}
			for n, want := range before {
				g, m, e := school.Replay(s, want.book)
				if e != api.OK || m != n || !look(g).equals(want) || !g.Audit() {
					t.Fatalf("%v, %q: %d %v", s, want.book, m, e)
				}
			}
		}
	}
}

func TestReplayGoesOn(t *testing.T) { // P9.5
	h := made(t, chain(), "learn 0", "read 00", "step")
	g, n, e := school.Replay(chain(), h.Book())
	if n != 3 || e != api.OK {
		t.Fatal(n, e)
	}
	for _, o := range []string{"say", "end", "say", "undo", "switch 3", "step"} {
		if x, y := h.Do(o), g.Do(o); x != y || !look(h).equals(look(g)) {
			t.Errorf("%q: %v %v", o, x, y)
		}
	}
	// With other rules, the same orders may do something else, or be refused.
	if g, n, e = school.Replay(system(r(0, 3)), h.Book()); n != 8 || e != api.OK || look(g).equals(look(h)) || !g.Audit() {
		t.Error(n, e)
	}
	if g, n, e = school.Replay(nil, h.Book()); g != nil || n != 0 || e != api.ErrNone {
		t.Error(g, n, e)
	}
}

func TestReplayRefused(t *testing.T) { // P9.5
	for _, c := range badSystems() {
		for _, book := range []string{"", bookOf([]string{"learn 0"}), bookOf([]string{"say"}), "x"} {
			if h, n, e := school.Replay(c.s, book); h != nil || n != 0 || e != c.want {
				t.Errorf("%v, %q: %v %d %v", c.s, book, h, n, e)
			}
		}
	}
	good := []string{"learn 0", "switch 1", "read 00", "end", "say"}
	for _, c := range []struct {
		order string
		want  api.Errno
	}{
		{"learn 0", api.ErrTwice}, {"learn 2", api.ErrNone}, {"forget 1", api.ErrState}, {"forget 99", api.ErrNone}, {"switch 5", api.ErrNone}, {"step", api.ErrRule}, {"say", api.ErrTwice},
		{"x", api.ErrSyntax}, {" ", api.ErrSyntax}, {"say ", api.ErrSyntax}, {"\x00", api.ErrSyntax}, {strings.Repeat("x", 30), api.ErrSyntax}, {"read 6", api.ErrSyntax},
	} {
		// The first order that is refused decides.
		for _, more := range [][]string{nil, {"end"}, {"learn 9", "no order"}} {
			book := bookOf(slices.Concat(good, []string{c.order}, more))
			if h, n, e := school.Replay(chain(), book); h != nil || n != 5 || e != c.want {
				t.Errorf("%q: %v %d %v", c.order, h, n, e)
			}
			// A rest is named before an order that is refused, and without a number.
			for _, rest := range []string{"x", "\n", "686971 say\n"} {
				if h, n, e := school.Replay(chain(), book+rest); h != nil || n != 0 || e != api.ErrBroken {
					t.Errorf("%q: %v %d %v", book+rest, h, n, e)
				}
			}
		}
	}
	if h, n, e := school.Replay(chain(), bookOf([]string{"undo"})); h != nil || n != 0 || e != api.ErrState {
		t.Error(h, n, e)
	}
}

func TestReplayMaxPages(t *testing.T) { // P9.5
	if h, n, e := school.Replay(nil, bookOf(times(100, "switch 2"))); n != 100 || e != api.OK || !h.Audit() {
		t.Error(n, e)
	}
	if h, n, e := school.Replay(nil, bookOf(times(101, "switch 2"))); h != nil || n != 0 || e != api.ErrBroken {
		t.Error(h, n, e)
	}
}

func TestRun(t *testing.T) { // P9.5
	for i, s := range someSystems() {
		for _, length := range []int{0, 1, 30, 99, 100} {
			orders, p := someOrders(int64(5000+i+length), length), newPlain(s)
			var want []api.Errno
			for _, o := range orders {
				want = append(want, p.do(o))
			}
			kept := slices.Clone(orders)
			codes, book, e := school.Run(s, orders)
			if !slices.Equal(codes, want) || book != bookOf(p.orders) || e != api.OK || !slices.Equal(orders, kept) {
				t.Fatalf("%v, %q: %v %q %v, not %v %q", s, orders, codes, book, e, want, bookOf(p.orders))
			}
		}
	}
	for _, c := range badSystems() {
		for _, n := range []int{0, 1, 101} {
			if codes, book, e := school.Run(c.s, times(n, "end")); len(codes) > 0 || book != "" || e != c.want {
				t.Errorf("%v: %v %q %v", c.s, codes, book, e)
			}
		}
	}
	// Orders count also if they would be refused.
	for _, o := range []string{"switch 1", "", "no order"} {
		if codes, book, e := school.Run(nil, times(101, o)); len(codes) > 0 || book != "" || e != api.ErrLarge {
			t.Errorf("%q: %v %q %v", o, codes, book, e)
		}
	}
	if codes, book, e := school.Run(nil, times(100, "")); !slices.Equal(codes, slices.Repeat([]api.Errno{api.ErrSyntax}, 100)) || book != "" || e != api.OK {
		t.Error(codes, book, e)
	}
}
