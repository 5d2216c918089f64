package tag_test

import (
	"fmt"
	"slices"
	"testing"

	"vyakarana/api"
	"vyakarana/tag"
)

// greedy takes what comes next, by the definition: from the longest words on, and of those from the first item on.
func greedy(l api.Lexicon, text []int) []int {
	for length := len(text); length > 0; length-- {
		for j, x := range l.Items {
			if len(x.Word) == length && slices.Equal(x.Word, text[:length]) {
				return append(w(j), greedy(l, text[length:])...)
			}
		}
	}
	return nil
}

func TestGreedy(t *testing.T) { // P8.4
	count := map[bool]int{}
	for _, k := range someCases() {
		want := greedy(k.l, k.text)
		items, n, e := tag.Greedy(k.l, k.text)
		if !slices.Equal(items, want) || n != len(joined(k.l, want)) || e != api.OK {
			t.Fatalf("%v, %v: %v %d %v, not %v", k.l, k.text, items, n, e, want)
		}
		count[n == len(k.text)]++
	}
	if count[true] < 1000 || count[false] < 1000 {
		t.Error("the cases do not show enough:", count)
	}
}

func TestGreedyByHand(t *testing.T) { // P8.4
	for i, c := range []struct {
		l           api.Lexicon
		text, items []int
		n           int
	}{
		{three(), nil, nil, 0},
		{three(), w(0, 1), w(1), 2},
		{three(), w(0, 0, 1, 1), w(0, 1, 2), 4},
		{three(), w(2, 0, 1), nil, 0},
		{three(), w(0, 1, 3, 0), w(1), 2},
		// Without regard to what must not follow.
		{apart(), w(1, 0, 1, 0), w(2, 1, 0), 4},
		{lexicon(always(-1), item(0, 1, 0)), w(0, 0, 0), w(0, 0, 0), 3},
		// The first one of several longest ones, and not the cheapest.
		{plain(w(0), w(0, 0), w(0, 0), w(0)), w(0, 0, 0), w(1, 0), 3},
		{lexicon(always(0), item(0, 9, 0), item(0, 1, 0)), w(0, 0), w(0, 0), 2},
		// What is longest now may be wrong later.
		{plain(w(0), w(0, 1, 2), w(1, 2, 3), w(0, 1)), w(0, 1, 2, 3), w(1), 3},
		{eight(), zeros(12), zeros(12), 12},
		{full(), append(zeros(6), zeros(5)...), w(0), 6},
		{plain(w(0, 1)), w(0), nil, 0},
	} {
		if items, n, e := tag.Greedy(c.l, c.text); !slices.Equal(items, c.items) || n != c.n || e != api.OK {
			t.Errorf("%d: %v %d %v", i, items, n, e)
		}
	}
}

func TestCheckTwo(t *testing.T) { // P8.4
	count := map[api.Errno]int{}
	for _, l := range someLexicons() {
		if len(l.Items) > 4 {
			continue
		}
		for _, a := range lists(len(l.Items), 2) {
			for _, b := range lists(len(l.Items), 3) {
				want := api.ErrProof
				if !slices.Equal(a, b) && slices.Equal(joined(l, a), joined(l, b)) {
					want = api.OK
				}
				if e, f := tag.CheckTwo(l, a, b), tag.CheckTwo(l, b, a); e != want || f != want {
					t.Fatalf("%v, %v, %v: %v %v, not %v", l, a, b, e, f, want)
				}
				count[want]++
			}
		}
	}
	if count[api.OK] < 1000 {
		t.Error("the lexicons do not show enough:", count)
	}
}

func TestCheckTwoByHand(t *testing.T) { // P8.4
	l := plain(w(0), w(0, 0), w(1))
	most, half := zeros(200), slices.Repeat(w(1), 100)
	for i, c := range []struct {
		l    api.Lexicon
		a, b []int
		want api.Errno
	}{
		{three(), w(0, 2), w(1), api.OK},
		{three(), w(1), w(0, 2), api.OK},
		// What must not follow does not matter.
		{apart(), w(0, 2), w(1), api.OK},
		{lexicon(always(-1), eight().Items...), w(7, 0), w(0, 7), api.OK},
		{three(), nil, nil, api.ErrProof},
		{three(), w(1), w(1), api.ErrProof},
		{three(), w(0), w(2), api.ErrProof},
		{three(), nil, w(0), api.ErrProof},
		{three(), w(0, 2), w(1, 1), api.ErrProof},
		{three(), w(0, 2, 0), w(1), api.ErrProof},
		{l, most, half, api.OK},
		{l, half, most, api.OK},
		{l, most, most, api.ErrProof},
		{l, most, half[1:], api.ErrProof},
		// A list that is too long is named first, then what there is not.
		{l, zeros(201), half, api.ErrLarge},
		{l, half, zeros(201), api.ErrLarge},
		{l, w(-1), zeros(201), api.ErrLarge},
		{l, zeros(201), zeros(201), api.ErrLarge},
		{l, slices.Repeat(w(9), 400), w(9), api.ErrLarge},
		{l, w(0, 3), w(0, 3), api.ErrNone},
		{l, w(0, -1), w(0), api.ErrNone},
		{l, w(0), append(zeros(199), 3), api.ErrNone},
		{l, nil, w(8), api.ErrNone},
	} {
		if e := tag.CheckTwo(c.l, c.a, c.b); e != c.want {
			t.Errorf("%d: %v, not %v", i, e, c.want)
		}
	}
}

// isCode gathers all that can be left over of two lists, until there is nothing new.
func isCode(l api.Lexicon) bool {
	var all []string
	for _, x := range l.Items {
		word := ""
		for _, sound := range x.Word {
			word += fmt.Sprint(sound)
		}
		all = append(all, word)
	}
	left := map[string]bool{}
	gather := func(word, other string) {
		if len(word) <= len(other) && other[:len(word)] == word {
			left[other[len(word):]] = true
		}
	}
	for i, word := range all {
		for j, other := range all {
			if i != j {
				gather(word, other)
			}
		}
	}
	for before := -1; before < len(left); {
		before = len(left)
		for rest := range left {
			for _, word := range all {
				gather(word, rest)
				gather(rest, word)
			}
		}
		if left[""] {
			return false
		}
	}
	return true
}

// checkTwo checks Two and IsCode, and returns how many items the two lists have.
func checkTwo(t *testing.T, l api.Lexicon, want bool) int {
	t.Helper()
	if is, e := tag.IsCode(l); is != want || e != api.OK {
		t.Fatalf("IsCode: %v: %v %v", l, is, e)
	}
	a, b, ok, e := tag.Two(l)
	if ok == want || e != api.OK || !ok && len(a)+len(b) > 0 {
		t.Fatalf("Two: %v: %v %v %v %v", l, a, b, ok, e)
	}
	if e := tag.CheckTwo(l, a, b); ok && e != api.OK {
		t.Fatalf("Two: %v: %v %v: %v", l, a, b, e)
	}
	return len(a) + len(b)
}

func TestTwo(t *testing.T) { // P8.4
	count := map[bool]int{}
	for _, l := range someLexicons() {
		is := isCode(l)
		checkTwo(t, l, is)
		count[is]++
		seen := map[string]bool{}
		for _, items := range lists(len(l.Items), 4) {
			text := fmt.Sprint(joined(l, items))
			if is && seen[text] {
				t.Fatalf("%v: two lists have the words %s", l, text)
			}
			seen[text] = true
		}
	}
	if count[true] < 50 || count[false] < 50 {
		t.Error("the lexicons do not show enough:", count)
	}
}

func TestTwoByHand(t *testing.T) { // P8.4, with the chapter's second example
	for i, c := range []struct {
		l  api.Lexicon
		is bool
	}{
		{three(), false},
		// What must not follow does not matter.
		{apart(), false},
		{lexicon(always(-1), item(0, 0, 0), item(0, 0, 0, 0)), false},
		{plain(w(0)), true},
		{plain(w(0, 1, 2, 3, 4, 5)), true},
		{plain(w(0), w(0)), false},
		{lexicon(always(0), item(0, 1, 0, 1), item(1, 2, 0, 1)), false},
		{plain(w(0), w(1)), true},
		{plain(w(0), w(1), w(2), w(3), w(4), w(5)), true},
		{plain(w(0), w(1), w(2), w(3), w(4), w(5), w(5, 4)), false},
		{plain(w(0, 0), w(0, 0, 0)), false},
		{plain(w(0), w(0, 1), w(1, 1)), true},
		{plain(w(0), w(0, 1), w(1, 0)), false},
		{plain(w(0, 1), w(1, 0), w(0)), false},
		{plain(w(1), w(0, 1, 1), w(0, 1, 1, 1, 0), w(1, 1, 1, 0), w(1, 0, 0, 1, 1)), false},
		// What is left over comes again and again, and never to an end.
		{plain(w(0), w(0, 1), w(1, 1, 1, 1, 1, 1)), true},
		{plain(w(0, 1), w(0, 1, 2), w(2, 2)), true},
		{winding(), false},
		{full(), false},
		{plain(full().Items[0].Word, full().Items[1].Word), true},
		{eight(), false},
	} {
		if isCode(c.l) != c.is {
			t.Error("the test is wrong:", i)
		}
		checkTwo(t, c.l, c.is)
	}
	if n := checkTwo(t, winding(), false); n < 29 {
		t.Error("not so soon:", n)
	}
}

func TestSplitsOfCodes(t *testing.T) { // P8.4, S8
	count := map[bool]int{}
	for _, k := range someCases() {
		is, _ := tag.IsCode(k.l)
		n, _ := tag.Count(k.l, k.text)
		if is && n > 1 {
			t.Fatalf("%v, %v: a code, but %d splits", k.l, k.text, n)
		}
		count[is && n == 1]++
	}
	if count[true] < 300 {
		t.Error("the cases do not show enough:", count)
	}
}

func TestMemoryOfTwo(t *testing.T) { // R5
	for _, x := range []api.Lexicon{three(), eight(), winding()} {
		l, text, items := roomyLexicon(x), roomy(0, 1, 0, 0), roomy(0, 1, 1)
		before := fmt.Sprint(roomOf(l), room(text), room(items))
		a, b, _, _ := tag.Two(l)
		list, _, _ := tag.Greedy(l, text)
		tag.CheckTwo(l, items, items[:2])
		if spoilAll(a, b, list) {
			t.Error("lists share memory:", x)
		}
		if fmt.Sprint(roomOf(l), room(text), room(items)) != before {
			t.Error("an argument was changed:", l, text, items)
		}
	}
}
