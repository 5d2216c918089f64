package school

import (
	"testing"

	"vyakarana/api"
)

// audited makes a school with something of each kind in it: the word 2 2 0, of 0 0 0, and the forms 1 1 and 2.
func audited(t *testing.T) *School {
	t.Helper()
	h, e := New([]api.Rule{{From: 0, To: []int{1}}, {From: 1, To: []int{2}}, {From: 2, To: []int{5}, Left: []int{5}}})
	if e != api.OK {
		t.Fatal(e)
	}
	for _, o := range []string{"learn 0", "switch 3", "switch 4", "read 00", "end", "say", "learn 1", "read 0", "end", "say", "switch 1", "read 000", "step", "step", "step", "step"} {
		if e := h.Do(o); e != api.OK {
			t.Fatal(o, e)
		}
	}
	return h
}

func TestAudit(t *testing.T) { // P9.3: what no order can bring about
	if !audited(t).Audit() {
		t.Fatal("not true of a sound school")
	}
	for name, spoil := range map[string]func(s *state){
		"a rule more":              func(s *state) { s.learned = append(s.learned, 2) },
		"a rule less":              func(s *state) { s.learned = s.learned[:1] },
		"a ground less":            func(s *state) { s.grounds = s.grounds[:2] },
		"grounds in another order": func(s *state) { s.grounds[0], s.grounds[1] = s.grounds[1], s.grounds[0] },
		"another word":             func(s *state) { s.word[0] = 3 },
		"another base":             func(s *state) { s.base[0] = 3 },
		"another base and word":    func(s *state) { s.base[2], s.word[2] = 3, 3 },
		"no word":                  func(s *state) { s.hasWord, s.base, s.word, s.slate = false, nil, nil, nil },
		"only no word":             func(s *state) { s.hasWord = false },
		"a choice less":            func(s *state) { s.slate = s.slate[:3] },
		"one that is no place":     func(s *state) { s.slate[0].Place = 9 },
		"another rule":             func(s *state) { s.slate[0].Rule = 2 },
		"another ground":           func(s *state) { s.slate[1].Ground = 0 },
		"choices in another order": func(s *state) { s.slate[1], s.slate[2] = s.slate[2], s.slate[1] },
		"other choices, same word": func(s *state) { // both of 0 to 1 before both of 1 to 2
			s.slate = []api.Choice{{Rule: 0, Place: 0, Ground: 3}, {Rule: 0, Place: 1, Ground: 3}, {Rule: 1, Place: 0, Ground: 4}, {Rule: 1, Place: 1, Ground: 4}}
		},
		"a form twice":          func(s *state) { s.forms = append(s.forms, s.forms[0]) },
		"another form":          func(s *state) { s.forms[1] = []int{4} },
		"a form less":           func(s *state) { s.forms = s.forms[:1] },
		"an order less":         func(s *state) { s.orders = s.orders[:len(s.orders)-1] },
		"an order that is none": func(s *state) { s.orders[0] = "learn" },
		"a refused order":       func(s *state) { s.orders[0] = "say" },
		"another order":         func(s *state) { s.orders[3] = "read 000" },
		"other rules":           func(s *state) { s.rules[0].To[0] = 3 },
	} {
		h := audited(t)
		spoil(&h.now)
		if h.Audit() {
			t.Error(name)
		}
	}
}

func TestAuditOfOtherBook(t *testing.T) { // P9.3: what is there must be what the book makes
	h := audited(t)
	h.now.orders = append(h.now.orders, "read 1")
	if h.Audit() {
		t.Error("another book")
	}
	h.now.base, h.now.word, h.now.slate = []int{1}, []int{1}, nil
	if !h.Audit() {
		t.Error("not true of what an order would have made")
	}
}

func TestRefusal(t *testing.T) { // the chapter's section Ways: a refused order is an error
	h := audited(t)
	err := h.obey("step", "undo", "say", "step")
	r, ok := err.(refusal)
	if !ok || r.number != 18 || r.code != api.ErrRule || r.Error() != "order 18 is refused with the code 6" {
		t.Error(err)
	}
	if err := h.obey("step"); err != nil {
		t.Error(err)
	}
}
