package school

import (
	"slices"
	"strings"

	"vyakarana/api"
	"vyakarana/feed"
	"vyakarana/order"
	"vyakarana/rule"
)

// lastGround is the greatest number of a ground; the smallest one is 1.
const lastGround = 4

// state is what a school is at a moment. Its rules never change; its words and forms, which may be the same memory,
// are replaced, but never written into.
type state struct {
	rules      []api.Rule
	learned    []int
	grounds    []int
	hasWord    bool
	base, word []int
	slate      []api.Choice
	forms      [][]int
	orders     []string
}

// do executes an order and adds it to the book, or changes nothing.
func (s *state) do(text string) api.Errno {
	c, ok := parse(text)
	if !ok {
		return api.ErrSyntax
	}
	if len(s.orders) == api.MaxPages {
		return api.ErrLarge
	}
	if e := s.execute(c); e != api.OK {
		return e
	}
	// The text may be a part of a longer one, which is not to be kept for it.
	s.orders = append(s.orders, strings.Clone(text))
	return api.OK
}

func (s *state) execute(c command) api.Errno {
	switch c.kind {
	case learn:
		return s.learn(c.number)
	case forget:
		return s.forget(c.number)
	case toggle:
		return s.toggle(c.number)
	case read:
		return s.read(c.word)
	case step:
		return s.step()
	case end:
		return s.end()
	case undo:
		return s.undo()
	default:
		return s.say()
	}
}

func (s *state) learn(k int) api.Errno {
	if k >= len(s.rules) {
		return api.ErrNone
	}
	at, is := slices.BinarySearch(s.learned, k)
	if is {
		return api.ErrTwice
	}
	s.learned = slices.Insert(s.learned, at, k)
	return api.OK
}

func (s *state) forget(k int) api.Errno {
	if k >= len(s.rules) {
		return api.ErrNone
	}
	at, is := slices.BinarySearch(s.learned, k)
	if !is {
		return api.ErrState
	}
	s.learned = slices.Delete(s.learned, at, at+1)
	return api.OK
}

func (s *state) toggle(ground int) api.Errno {
	if ground < 1 || ground > lastGround {
		return api.ErrNone
	}
	if at := slices.Index(s.grounds, ground); at >= 0 {
		s.grounds = slices.Delete(s.grounds, at, at+1)
	} else {
		s.grounds = append(s.grounds, ground)
	}
	return api.OK
}

func (s *state) read(w []int) api.Errno {
	s.hasWord = true
	s.base, s.word = w, w
	s.slate = nil
	return api.OK
}

func (s *state) step() api.Errno {
	if !s.hasWord {
		return api.ErrState
	}
	system := s.system()
	choice, ok, _ := order.Winner(system, s.word, s.grounds)
	if !ok {
		return api.ErrRule
	}
	if len(s.slate) == api.MaxSteps {
		return api.ErrLarge
	}
	word, _ := rule.Apply(system[choice.Rule], s.word, choice.Place)
	s.note(word, choice)
	return api.OK
}

func (s *state) end() api.Errno {
	if !s.hasWord {
		return api.ErrState
	}
	choices, word, e := order.Derive(s.system(), s.word, s.grounds)
	if e != api.OK || len(s.slate)+len(choices) > api.MaxSteps {
		return api.ErrLarge
	}
	s.note(word, choices...)
	return api.OK
}

func (s *state) undo() api.Errno {
	if len(s.slate) == 0 {
		return api.ErrState
	}
	s.slate = s.slate[:len(s.slate)-1]
	// The slate has made the word, whatever was forgotten or switched since: what is left of it makes the one before.
	s.word, _ = made(s.rules, s.base, s.slate)
	return api.OK
}

func (s *state) say() api.Errno {
	if !s.hasWord {
		return api.ErrState
	}
	if !s.isEnded() {
		return api.ErrRule
	}
	if contains(s.forms, s.word) {
		return api.ErrTwice
	}
	s.forms = append(s.forms, s.word)
	return api.OK
}

// system returns the learned system.
func (s *state) system() []api.Rule {
	list := make([]api.Rule, len(s.learned))
	for i, k := range s.learned {
		list[i] = s.rules[k]
	}
	return list
}

// note puts choices of the learned system on the slate, with the word that they make.
func (s *state) note(word []int, choices ...api.Choice) {
	for _, c := range choices {
		// The number of a rule among the learned ones changes when others are learned.
		c.Rule = s.learned[c.Rule]
		s.slate = append(s.slate, c)
	}
	s.word = word
}

func (s state) isEnded() bool {
	is, _ := feed.IsEnd(s.system(), s.word)
	return s.hasWord && is
}

func (s state) book() string {
	// There are never too many orders, and each is short, so that there is no error.
	text, _ := Write(s.orders)
	return text
}

// isSound reports what Audit does.
func (s state) isSound() bool {
	word, ok := made(s.rules, s.base, s.slate)
	if !ok || !slices.Equal(word, s.word) {
		return false
	}
	for i, f := range s.forms {
		if contains(s.forms[:i], f) {
			return false
		}
	}
	again, _, e := Replay(s.rules, s.book())
	return e == api.OK && s.equals(again.now)
}

// equals reports whether two states of schools with the same rules are equal.
func (s state) equals(other state) bool {
	return slices.Equal(s.learned, other.learned) && slices.Equal(s.grounds, other.grounds) &&
		s.hasWord == other.hasWord && slices.Equal(s.base, other.base) && slices.Equal(s.word, other.word) &&
		slices.Equal(s.slate, other.slate) && slices.EqualFunc(s.forms, other.forms, slices.Equal) &&
		slices.Equal(s.orders, other.orders)
}

// copied returns a state that shares nothing with this one that may change.
func (s state) copied() state {
	s.learned = slices.Clone(s.learned)
	s.grounds = slices.Clone(s.grounds)
	s.base = slices.Clone(s.base)
	s.word = slices.Clone(s.word)
	s.slate = slices.Clone(s.slate)
	s.forms = slices.Clone(s.forms)
	for i, f := range s.forms {
		s.forms[i] = slices.Clone(f)
	}
	s.orders = slices.Clone(s.orders)
	return s
}

// made returns the word that choices make of a base, and whether each one is a place of its rule.
func made(rules []api.Rule, base []int, slate []api.Choice) ([]int, bool) {
	w := slices.Clone(base)
	for _, c := range slate {
		v, e := rule.Apply(rules[c.Rule], w, c.Place)
		if e != api.OK {
			return nil, false
		}
		w = v
	}
	return w, true
}

func contains(words [][]int, w []int) bool {
	return slices.ContainsFunc(words, func(v []int) bool { return slices.Equal(v, w) })
}

func copiedRules(s []api.Rule) []api.Rule {
	list := make([]api.Rule, len(s))
	for i, r := range s {
		list[i] = api.Rule{From: r.From, To: slices.Clone(r.To), Left: slices.Clone(r.Left), Right: slices.Clone(r.Right)}
	}
	return list
}
