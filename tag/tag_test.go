package tag_test

import (
	"math"
	"slices"
	"testing"

	"vyakarana/api"
	"vyakarana/tag"
)

func TestValidate(t *testing.T) { // P8.1
	for i, c := range badLexicons() {
		if e := tag.Validate(c.value); e != c.want {
			t.Errorf("%d: %v: %v, not %v", i, c.value, e, c.want)
		}
	}
	good := []api.Lexicon{
		lexicon(always(-1), item(0, 0, 0)), lexicon(always(0), item(3, 99, 5, 5, 5, 5, 5, 5)), lexicon(except(99, 3, 0, -1), item(2, 1, 0, 5)),
	}
	for i, l := range append(good, someLexicons()...) {
		if e := tag.Validate(l); e != api.OK {
			t.Errorf("%d: %v: %v", i, l, e)
		}
	}
}

// args are arguments of all functions.
type args struct {
	l                 api.Lexicon
	text, split, a, b []int
	proof             [][]int
	item, by          int
}

// call is a function, what it takes beside a lexicon, and how it is called; zero tells whether all else is zero.
type call struct {
	name               string
	text, list, number bool
	do                 func(x args) (e api.Errno, zero bool)
}

func calls() []call {
	return []call{
		{name: "CheckSplit", text: true, list: true, do: func(x args) (api.Errno, bool) {
			n, e := tag.CheckSplit(x.l, x.text, x.split)
			return e, n == 0
		}},
		{name: "Least", text: true, do: func(x args) (api.Errno, bool) { n, ok, e := tag.Least(x.l, x.text); return e, n == 0 && !ok }},
		{name: "Best", text: true, do: func(x args) (api.Errno, bool) { s, ok, e := tag.Best(x.l, x.text); return e, len(s) == 0 && !ok }},
		{name: "Count", text: true, do: func(x args) (api.Errno, bool) { n, e := tag.Count(x.l, x.text); return e, n == 0 }},
		{name: "All", text: true, do: func(x args) (api.Errno, bool) { s, e := tag.All(x.l, x.text); return e, len(s) == 0 }},
		{name: "CheckProof", text: true, do: func(x args) (api.Errno, bool) {
			n, ok, e := tag.CheckProof(x.l, x.text, x.proof)
			return e, n == 0 && !ok
		}},
		{name: "Proof", text: true, do: func(x args) (api.Errno, bool) { p, e := tag.Proof(x.l, x.text); return e, len(p) == 0 }},
		{name: "Greedy", text: true, do: func(x args) (api.Errno, bool) {
			s, n, e := tag.Greedy(x.l, x.text)
			return e, len(s) == 0 && n == 0
		}},
		{name: "CheckTwo", do: func(x args) (api.Errno, bool) { return tag.CheckTwo(x.l, x.a, x.b), true }},
		{name: "Two", do: func(x args) (api.Errno, bool) { a, b, ok, e := tag.Two(x.l); return e, len(a)+len(b) == 0 && !ok }},
		{name: "IsCode", do: func(x args) (api.Errno, bool) { is, e := tag.IsCode(x.l); return e, !is }},
		{name: "Text", list: true, do: func(x args) (api.Errno, bool) { s, e := tag.Text(x.l, x.split); return e, len(s) == 0 }},
		{name: "Back", do: func(x args) (api.Errno, bool) { l, e := tag.Back(x.l); return e, isZero(l) }},
		{name: "Dearer", number: true, do: func(x args) (api.Errno, bool) { l, e := tag.Dearer(x.l, x.item, x.by); return e, isZero(l) }},
		{name: "Without", number: true, do: func(x args) (api.Errno, bool) { l, e := tag.Without(x.l, x.item); return e, isZero(l) }},
		{name: "Free", do: func(x args) (api.Errno, bool) { l, e := tag.Free(x.l); return e, isZero(l) }},
	}
}

// errorsOf checks that the functions of which something is true refuse the arguments with an error.
func errorsOf(t *testing.T, x args, want api.Errno, is func(c call) bool) {
	t.Helper()
	for _, c := range calls() {
		if !is(c) {
			continue
		}
		if e, zero := c.do(x); e != want || !zero {
			t.Errorf("%s: %v, not %v, all else zero: %v: %v", c.name, e, want, zero, x)
		}
	}
}

// others are arguments that are right for some lexicons and texts, and some of which nothing is right.
func others() []args {
	return []args{
		{},
		{text: w(0), split: w(0), a: w(0), b: w(1), proof: [][]int{{0}, {0}}, by: 1},
		{text: make([]int, 13), split: make([]int, 13), a: make([]int, 201), b: w(-1), proof: [][]int{nil}, item: -1, by: 100},
		{text: w(9), split: w(-1), a: w(9), b: make([]int, 201), proof: [][]int{{math.MaxInt}}, item: 8, by: -100},
	}
}

func TestErrorsOfLexicons(t *testing.T) { // P8.1, R2, R3
	for _, c := range badLexicons() {
		for _, x := range others() {
			x.l = c.value
			errorsOf(t, x, c.want, func(call) bool { return true })
		}
	}
}

func TestErrorsOfTexts(t *testing.T) { // P8.1, R3
	for _, l := range []api.Lexicon{three(), apart(), eight(), full(), plain(w(0))} {
		for _, c := range badTexts() {
			for _, x := range others() {
				x.l, x.text = l, c.value
				errorsOf(t, x, c.want, func(c call) bool { return c.text })
			}
		}
	}
}

func TestErrorsOfItems(t *testing.T) { // P8.2, P8.5, R3
	for _, l := range []api.Lexicon{three(), apart(), eight(), full(), plain(w(0))} {
		for _, j := range outside(len(l.Items)) {
			for _, by := range w(0, -1, 100, math.MinInt, math.MaxInt) {
				errorsOf(t, args{l: l, item: j, by: by}, api.ErrNone, func(c call) bool { return c.number })
			}
			for _, list := range [][]int{w(j), w(0, j), w(j, 0), append(make([]int, 11), j)} {
				errorsOf(t, args{l: l, text: w(0), split: list}, api.ErrNone, func(c call) bool { return c.list })
			}
		}
	}
}

func TestNoErrors(t *testing.T) { // P8.1: a text of as many sounds as there may be
	l := lexicon(always(99), item(0, 99, 0), item(3, 1, 5))
	text := w(0, 5, 0, 5, 0, 5, 0, 5, 0, 5, 0, 5)
	items := w(0, 1, 0, 1, 0, 1, 0, 1, 0, 1, 0, 1)
	proof, _ := tag.Proof(l, text)
	x := args{l: l, text: text, split: items, a: w(0), b: w(1), proof: proof, item: 1, by: 98}
	for _, c := range calls() {
		want := api.OK
		if c.name == "CheckTwo" {
			want = api.ErrProof
		}
		if e, _ := c.do(x); e != want {
			t.Errorf("%s: %v", c.name, e)
		}
	}
	if n, e := tag.CheckSplit(l, text, items); n != 6*99+6+11*99 || e != api.OK {
		t.Error(n, e)
	}
}

func TestEqualCalls(t *testing.T) { // R4, R11
	for _, k := range someCases() {
		l, text := roomyLexicon(k.l), roomy(k.text...)
		best, _, _ := tag.Best(k.l, k.text)
		if again, _, _ := tag.Best(l, text); !slices.Equal(best, again) {
			t.Fatalf("%v, %v: %v, then %v", k.l, k.text, best, again)
		}
		proof, _ := tag.Proof(k.l, k.text)
		if again, _ := tag.Proof(l, text); !same(proof, again) {
			t.Fatalf("%v, %v: %v, then %v", k.l, k.text, proof, again)
		}
		a, b, _, _ := tag.Two(k.l)
		if c, d, _, _ := tag.Two(l); !same([][]int{a, b}, [][]int{c, d}) {
			t.Fatalf("%v: %v %v, then %v %v", k.l, a, b, c, d)
		}
	}
}
