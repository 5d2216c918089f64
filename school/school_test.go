package school_test

import (
	"slices"
	"strings"
	"sync"
	"testing"

	"vyakarana/api"
	"vyakarana/school"
)

func TestNew(t *testing.T) { // P9.3, the chapter's section Orders
	for _, c := range badSystems() {
		if h, e := school.New(c.s); h != nil || e != c.want {
			t.Errorf("%v: %v %v, not %v", c.s, h, e, c.want)
		}
	}
	for _, s := range someSystems() {
		h := made(t, s)
		if !look(h).equals(seen{}) || !h.Audit() {
			t.Errorf("%v: %v", s, look(h))
		}
	}
}

func TestNoSchool(t *testing.T) { // the chapter's section Functions
	var h *school.School
	for _, o := range []string{"learn 0", "read 0", "say", "", "no order"} {
		done(t, h, o, api.ErrArg)
	}
	if !look(h).equals(seen{}) || h.Audit() {
		t.Error(look(h), h.Audit())
	}
}

// event is what an order was about, and what was returned.
type event struct {
	name string
	code api.Errno
}

func TestHistories(t *testing.T) { // P9.1 to P9.3, S9: compared with a plain reading of the chapter
	count := map[event]int{}
	for i, s := range someSystems() {
		for k := range 12 {
			h, p := made(t, s), newPlain(s)
			for j, o := range someOrders(int64(100*i+k), 40+25*k) {
				e, want := h.Do(o), p.do(o)
				if !look(h).equals(p.look()) || e != want {
					t.Fatalf("%v, %q: %q: %v %v, not %v %v", s, p.orders, o, e, look(h), want, p.look())
				}
				if j%40 == 0 && !h.Audit() {
					t.Fatalf("%v, %q: no audit", s, p.orders)
				}
				name, _, _ := strings.Cut(o, " ")
				count[event{name, e}]++
			}
			if !h.Audit() {
				t.Fatalf("%v, %q: no audit", s, p.orders)
			}
		}
	}
	for _, x := range []event{
		{"learn", api.OK}, {"learn", api.ErrNone}, {"learn", api.ErrTwice}, {"forget", api.OK}, {"forget", api.ErrNone}, {"forget", api.ErrState},
		{"switch", api.OK}, {"switch", api.ErrNone}, {"read", api.OK}, {"step", api.OK}, {"step", api.ErrState}, {"step", api.ErrRule},
		{"end", api.OK}, {"end", api.ErrState}, {"end", api.ErrLarge}, {"undo", api.OK}, {"undo", api.ErrState},
		{"say", api.OK}, {"say", api.ErrState}, {"say", api.ErrRule}, {"say", api.ErrTwice}, {"say", api.ErrLarge}, {"say", api.ErrSyntax}, {"learn", api.ErrSyntax},
	} {
		if count[x] < 20 {
			t.Error("the histories do not show enough:", x, count[x])
		}
	}
}

func TestMemory(t *testing.T) { // R5: nothing that is given or returned is a part of the school
	s := system(api.Rule{From: 0, To: roomy(1), Left: roomy(-1, 0, 1), Right: roomy(-1, 0)}, api.Rule{From: 1, To: roomy(2, 3), Left: roomy(), Right: roomy(2)}, r(5))
	orders := []string{"learn 2", "learn 0", "switch 4", "switch 3", "read 00", "end", "say", "read 500", "step", "step"}
	p := newPlain([]api.Rule{{From: 0, To: []int{1}, Left: []int{-1, 0, 1}, Right: []int{-1, 0}}, {From: 1, To: []int{2, 3}, Right: []int{2}}, r(5)})
	h := made(t, s, orders...)
	for _, o := range orders {
		p.do(o)
	}
	for _, x := range s {
		spoil(x.To, 4)
		spoil(x.Left, 4)
		spoil(x.Right, 4)
	}
	spoil(s, r(0, 5))
	for _, o := range []string{"learn 1", "undo", "undo", "step", "end", "say", "forget 2", "switch 4", "read 05"} {
		x := look(h)
		spoil(x.learned, 9)
		spoil(x.grounds, 9)
		spoil(x.base, 9)
		spoil(x.word, 9)
		spoil(x.slate, choice(9, 9, 9))
		for _, f := range x.forms {
			spoil(f, 9)
		}
		spoil(x.forms, []int{9})
		if !look(h).equals(p.look()) || !h.Audit() {
			t.Fatalf("before %q: %v, not %v", o, look(h), p.look())
		}
		done(t, h, o, p.do(o))
	}
	if !look(h).equals(p.look()) {
		t.Errorf("%v, not %v", look(h), p.look())
	}
}

func TestWordIsNotBase(t *testing.T) { // R5: neither are base and word, nor a word and a form, parts of each other
	h := made(t, chain(), "read 00", "say")
	base, _ := h.Base()
	word, _ := h.Word()
	forms := h.Forms()
	spoil(base, 7)
	if !slices.Equal(word, []int{0, 0}) || !slices.Equal(forms[0], []int{0, 0}) {
		t.Error(word, forms)
	}
	spoil(word, 8)
	if !slices.Equal(forms[0], []int{0, 0}) {
		t.Error(forms)
	}
}

func TestManyAtOnce(t *testing.T) { // each call takes effect at one moment
	for _, s := range [][]api.Rule{chain(), tree(), round()} {
		h := made(t, s)
		var doers, lookers sync.WaitGroup
		accepted := make([][]string, 8)
		stop := make(chan bool)
		for i := range accepted {
			doers.Go(func() {
				for _, o := range someOrders(int64(i), 60) {
					if h.Do(o) == api.OK {
						accepted[i] = append(accepted[i], o)
					}
				}
			})
		}
		for range 3 {
			lookers.Go(func() {
				for last := ""; ; {
					book := h.Book()
					if _, rest := school.Read(book); rest != "" || !strings.HasPrefix(book, last) || !h.Audit() {
						t.Errorf("%q after %q", book, last)
						return
					}
					last = book
					look(h)
					select {
					case <-stop:
						return
					default:
					}
				}
			})
		}
		doers.Wait()
		close(stop)
		lookers.Wait()
		orders, rest := school.Read(h.Book())
		all := slices.Sorted(slices.Values(slices.Concat(accepted...)))
		if rest != "" || !slices.Equal(slices.Sorted(slices.Values(orders)), all) || !h.Audit() {
			t.Errorf("%v: %q %q, not %q", s, orders, rest, all)
		}
	}
}
