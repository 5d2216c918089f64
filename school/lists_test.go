package school_test

import (
	"math/rand"
	"regexp"
	"slices"
	"strconv"
	"testing"

	"vyakarana/api"
	"vyakarana/order"
	"vyakarana/rule"
	"vyakarana/school"
)

// r is a rule without neighbors.
func r(from int, to ...int) api.Rule { return api.Rule{From: from, To: to} }

// between is a rule with neighbors.
func between(left []int, from int, right []int, to ...int) api.Rule {
	return api.Rule{From: from, To: to, Left: left, Right: right}
}

func system(rules ...api.Rule) []api.Rule { return rules }

func choice(rule, place, ground int) api.Choice {
	return api.Choice{Rule: rule, Place: place, Ground: ground}
}

// chain is the system of the chapter's examples.
func chain() []api.Rule { return system(r(0, 1), r(1, 2)) }

// round goes on for ever from each word with 0 or 1.
func round() []api.Rule { return system(r(0, 1), r(1, 0)) }

// tree makes two of a sound, and of each of these two again, until all are left out. By the ground 4 the
// sounds that are left out first come first, so that no word becomes too long. 5 takes one step, 4 three,
// 3 seven, 2 fifteen and 1 thirty-one.
func tree() []api.Rule {
	return system(r(0, 1, 1), r(1, 2, 2), r(2, 3, 3), r(3, 4, 4), r(4, 5, 5), r(5))
}

// sixty and sixtyOne begin a school with the tree and a word that takes so many steps.
func sixty() []string    { return append(climbing(), "read 123445") }
func sixtyOne() []string { return append(climbing(), "read 1234455") }

func climbing() []string {
	return []string{"learn 0", "learn 1", "learn 2", "learn 3", "learn 4", "learn 5", "switch 4"}
}

// someSystems are systems of which the rules feed and block each other, some are special of others, and
// some make a word longer or leave sounds out.
func someSystems() [][]api.Rule {
	return [][]api.Rule{
		nil, system(r(0)), chain(), round(), tree(),
		system(r(0, 1), between([]int{-1}, 0, nil, 2)),
		system(between([]int{-1}, 0, nil, 2), r(0, 1), r(1, 3), between(nil, 1, []int{0, 1}, 4)),
		system(r(-1, 2), r(2), r(0, 1)),
		system(r(0, 0, 0), r(0, 3), between([]int{-1, 3}, 0, nil, 5)),
		system(between(nil, 0, []int{3}, 1), r(3), r(1, 3), r(5, 0), between([]int{1}, 0, nil, 1), r(0, 2)),
		system(r(4, 5), r(0, 1), r(0, 2), r(1, 2), between([]int{-1}, -1, []int{0, 1}, 2), between([]int{2}, 1, nil)),
		system(between([]int{0, 1}, 0, []int{0}, 2, 2), between([]int{-1}, 1, []int{-1, 2}), r(2, 3), r(0, 1), between(nil, 3, []int{-1}, 4)),
	}
}

// made makes a school and does orders, none of which may be refused.
func made(t *testing.T, s []api.Rule, orders ...string) *school.School {
	t.Helper()
	h, e := school.New(s)
	if h == nil || e != api.OK {
		t.Fatalf("New: %v: %v", s, e)
	}
	for _, o := range orders {
		done(t, h, o, api.OK)
	}
	return h
}

// done does an order, and checks what is returned.
func done(t *testing.T, h *school.School, o string, want api.Errno) {
	t.Helper()
	if e := h.Do(o); e != want {
		t.Fatalf("after %q: %q: %v, not %v", h.Book(), o, e, want)
	}
}

// times is a list with the same text so many times.
func times(n int, text string) []string { return slices.Repeat([]string{text}, n) }

// seen is all that a school shows.
type seen struct {
	learned, grounds []int
	base, word       []int
	hasBase, hasWord bool
	slate            []api.Choice
	forms            [][]int
	ended            bool
	book             string
}

func look(h *school.School) seen {
	var s seen
	s.learned, s.grounds, s.slate, s.forms = h.Learned(), h.Grounds(), h.Slate(), h.Forms()
	s.base, s.hasBase = h.Base()
	s.word, s.hasWord = h.Word()
	s.ended, s.book = h.Ended(), h.Book()
	return s
}

func (s seen) equals(o seen) bool {
	return slices.Equal(s.learned, o.learned) && slices.Equal(s.grounds, o.grounds) && slices.Equal(s.base, o.base) &&
		slices.Equal(s.word, o.word) && s.hasBase == o.hasBase && s.hasWord == o.hasWord && slices.Equal(s.slate, o.slate) &&
		slices.EqualFunc(s.forms, o.forms, slices.Equal) && s.ended == o.ended && s.book == o.book
}

// plain is a school by the chapter's definitions. Its words are the base, and what each choice made.
type plain struct {
	s       []api.Rule
	learned map[int]bool
	grounds []int
	words   [][]int
	slate   []api.Choice
	forms   [][]int
	orders  []string
}

func newPlain(s []api.Rule) *plain { return &plain{s: s, learned: map[int]bool{}} }

var grammar = regexp.MustCompile(`\A(?:(learn|forget|switch) (0|[1-9][0-9]?)|(read) ([0-5]{1,8})|(step)|(end)|(undo)|(say))\z`)

// do executes an order by the definitions.
func (p *plain) do(text string) api.Errno {
	m := grammar.FindStringSubmatch(text)
	if m == nil {
		return api.ErrSyntax
	}
	if len(p.orders) == 100 {
		return api.ErrLarge
	}
	n, _ := strconv.Atoi(m[2])
	e := p.change(m[1]+m[3]+m[5]+m[6]+m[7]+m[8], n, m[4])
	if e == api.OK {
		p.orders = append(p.orders, text)
	}
	return e
}

func (p *plain) change(name string, n int, sounds string) api.Errno {
	switch name {
	case "learn", "forget":
		if n >= len(p.s) {
			return api.ErrNone
		}
		if name == "learn" && p.learned[n] {
			return api.ErrTwice
		}
		if name == "forget" && !p.learned[n] {
			return api.ErrState
		}
		p.learned[n] = name == "learn"
	case "switch":
		if n < 1 || n > 4 {
			return api.ErrNone
		}
		rest := slices.DeleteFunc(slices.Clone(p.grounds), func(g int) bool { return g == n })
		if len(rest) == len(p.grounds) {
			rest = append(rest, n)
		}
		p.grounds = rest
	case "read":
		var w []int
		for _, c := range sounds {
			w = append(w, int(c-'0'))
		}
		p.words, p.slate = [][]int{w}, nil
	default:
		return p.proceed(name)
	}
	return api.OK
}

// proceed executes the orders about the word.
func (p *plain) proceed(name string) api.Errno {
	if len(p.words) == 0 {
		return api.ErrState
	}
	w := p.words[len(p.words)-1]
	c, next, ok := p.winner(w)
	switch name {
	case "step":
		if !ok {
			return api.ErrRule
		}
		if len(p.slate) == 60 {
			return api.ErrLarge
		}
		p.slate, p.words = append(p.slate, c), append(p.words, next)
	case "end":
		slate, words := slices.Clone(p.slate), slices.Clone(p.words)
		for ; ok; c, next, ok = p.winner(next) {
			slate, words = append(slate, c), append(words, next)
			if len(slate) > 60 {
				return api.ErrLarge
			}
		}
		p.slate, p.words = slate, words
	case "undo":
		if len(p.slate) == 0 {
			return api.ErrState
		}
		p.slate, p.words = p.slate[:len(p.slate)-1], p.words[:len(p.words)-1]
	case "say":
		if ok {
			return api.ErrRule
		}
		if slices.ContainsFunc(p.forms, func(f []int) bool { return slices.Equal(f, w) }) {
			return api.ErrTwice
		}
		p.forms = append(p.forms, w)
	}
	return api.OK
}

// winner is the winner among the candidates by the learned rules, with the number that it has in the whole
// system, and the word that it makes.
func (p *plain) winner(w []int) (api.Choice, []int, bool) {
	var numbers []int
	var rules []api.Rule
	for k, x := range p.s {
		if p.learned[k] {
			numbers, rules = append(numbers, k), append(rules, x)
		}
	}
	c, ok, _ := order.Winner(rules, w, p.grounds)
	if !ok {
		return api.Choice{}, nil, false
	}
	c.Rule = numbers[c.Rule]
	next, _ := rule.Apply(p.s[c.Rule], w, c.Place)
	return c, next, true
}

func (p *plain) look() seen {
	s := seen{grounds: p.grounds, slate: p.slate, forms: p.forms, book: bookOf(p.orders)}
	for k := range p.s {
		if p.learned[k] {
			s.learned = append(s.learned, k)
		}
	}
	if n := len(p.words); n > 0 {
		s.base, s.word, s.hasBase, s.hasWord = p.words[0], p.words[n-1], true, true
		_, _, more := p.winner(s.word)
		s.ended = !more
	}
	return s
}

// sumOf is the sum by the definition.
func sumOf(before int, text string) int {
	n := before % 1000003
	if n < 0 {
		n += 1000003
	}
	for _, b := range []byte(text) {
		n = (n*257 + int(b) + 1) % 1000003
	}
	return n
}

// bookOf is the book of orders by the definition.
func bookOf(orders []string) string {
	book, sum := "", 0
	for _, o := range orders {
		sum = sumOf(sum, o)
		book += strconv.Itoa(sum) + " " + o + "\n"
	}
	return book
}

// someOrders is a history: orders of which most are understood, and some are accepted.
func someOrders(seed int64, length int) []string {
	source := rand.New(rand.NewSource(seed))
	words := []string{"0", "00", "1", "10", "0100", "503", "21", "00000000", "1010", "123", "4", "33"}
	odd := []string{"", "learn", "read 6", "switch -1", "say ", " say", "step step", "learn 00", "end\n", "stop", "learn 100"}
	var list []string
	for range length {
		var o string
		switch k := source.Intn(20); {
		case k < 4:
			o = "learn " + strconv.Itoa(source.Intn(7))
		case k < 5:
			o = "forget " + strconv.Itoa(source.Intn(7))
		case k < 7:
			o = "switch " + strconv.Itoa(source.Intn(6))
		case k < 9:
			o = "read " + words[source.Intn(len(words))]
		case k < 12:
			o = "step"
		case k < 14:
			o = "end"
		case k < 16:
			o = "undo"
		case k < 19:
			o = "say"
		default:
			o = odd[source.Intn(len(odd))]
		}
		list = append(list, o)
	}
	return list
}

func badSystems() []struct {
	s    []api.Rule
	want api.Errno
} {
	good := r(0, 1)
	return []struct {
		s    []api.Rule
		want api.Errno
	}{
		{make([]api.Rule, 7), api.ErrLarge},
		{system(good, good, good, good, good, good, good), api.ErrLarge},
		{system(r(-2, 1)), api.ErrArg},
		{system(good, between([]int{1, 0}, 0, nil, 1)), api.ErrArg},
		{system(good, r(0, 1, 1, 1)), api.ErrLarge},
		{system(good, r(-1)), api.ErrRule},
		// One by one: the first rule with an error decides.
		{system(good, r(0, 0), r(0, 6), r(0, 1, 1, 1)), api.ErrRule},
	}
}

// roomy is a list with room behind it, into which a careless append would write.
func roomy(list ...int) []int { return append(make([]int, 0, len(list)+20), list...) }

// spoil writes into a list, and behind it as far as its memory goes.
func spoil[T any](list []T, with T) {
	list = list[:cap(list)]
	for i := range list {
		list[i] = with
	}
}
