package tag_test

import (
	"fmt"
	"slices"
	"testing"

	"vyakarana/api"
	"vyakarana/tag"
)

// zeros is a list of so many zeros.
func zeros(n int) []int { return make([]int, n) }

func TestCheckSplit(t *testing.T) { // P8.2
	count := map[api.Errno]int{}
	for _, k := range someCases() {
		all := lists(len(k.l.Items), 3)
		for _, s := range k.splits {
			all = append(all, s.items)
		}
		for _, items := range all {
			cost, ok := priced(k.l, items)
			want := api.OK
			if !slices.Equal(joined(k.l, items), k.text) {
				want = api.ErrProof
			} else if !ok {
				want = api.ErrRule
			}
			if want != api.OK {
				cost = 0
			}
			if n, e := tag.CheckSplit(k.l, k.text, items); n != cost || e != want {
				t.Fatalf("%v, %v, %v: %d %v, not %d %v", k.l, k.text, items, n, e, cost, want)
			}
			count[want]++
		}
	}
	if count[api.OK] < 1000 || count[api.ErrRule] < 300 {
		t.Error("the cases do not show enough:", count)
	}
}

func TestCheckSplitByHand(t *testing.T) { // P8.2
	sided := lexicon(except(7, 1, 2, -1), item(1, 10, 0), item(2, 20, 1))
	for i, c := range []struct {
		l           api.Lexicon
		text, split []int
		n           int
		want        api.Errno
	}{
		{three(), w(0, 1), w(0, 2), 2, api.OK},
		{three(), w(0, 1), w(1), 3, api.OK},
		{apart(), w(0, 1), w(0, 2), 0, api.ErrRule},
		{apart(), w(0, 1), w(1), 3, api.OK},
		{apart(), nil, nil, 0, api.OK},
		{three(), w(0), nil, 0, api.ErrProof},
		{three(), nil, w(0), 0, api.ErrProof},
		{three(), w(0, 1), w(2, 0), 0, api.ErrProof},
		{three(), w(0, 1), w(0, 2, 2), 0, api.ErrProof},
		{three(), w(0, 1, 1), w(0, 2), 0, api.ErrProof},
		// A list that is too long is named first, then what there is not, then the words.
		{three(), zeros(12), zeros(12), 12, api.OK},
		{three(), zeros(12), zeros(13), 0, api.ErrLarge},
		{three(), w(0), slices.Repeat(w(-1), 13), 0, api.ErrLarge},
		{three(), w(0), zeros(400), 0, api.ErrLarge},
		{three(), w(5), w(0, 3), 0, api.ErrNone},
		{apart(), w(5), w(0, 0, -1), 0, api.ErrNone},
		{apart(), w(5), w(0, 0), 0, api.ErrProof},
		{apart(), w(0, 0), w(0, 0), 0, api.ErrRule},
		// It is the item behind that follows: the kind 2 must not follow the kind 1, but 1 may follow 2.
		{sided, w(0, 1), w(0, 1), 0, api.ErrRule},
		{sided, w(1, 0), w(1, 0), 37, api.OK},
		{sided, w(1, 0, 0), w(1, 0, 0), 54, api.OK},
		{sided, w(1, 0, 0, 1), w(1, 0, 0, 1), 0, api.ErrRule},
		{full(), slices.Repeat(w(0), 12), w(0, 6), 297, api.OK},
	} {
		if n, e := tag.CheckSplit(c.l, c.text, c.split); n != c.n || e != c.want {
			t.Errorf("%d: %d %v", i, n, e)
		}
	}
}

// checkSplits checks Least, Best, Count and All.
func checkSplits(t *testing.T, k known) {
	t.Helper()
	least, has := k.least()
	if n, ok, e := tag.Least(k.l, k.text); n != least || ok != has || e != api.OK {
		t.Fatalf("Least: %v, %v: %d %v %v, not %d %v", k.l, k.text, n, ok, e, least, has)
	}
	best, ok, e := tag.Best(k.l, k.text)
	if ok != has || e != api.OK || !ok && len(best) > 0 {
		t.Fatalf("Best: %v, %v: %v %v %v", k.l, k.text, best, ok, e)
	}
	if n, e := tag.CheckSplit(k.l, k.text, best); has && (n != least || e != api.OK) {
		t.Fatalf("Best: %v, %v: %v: %d %v, not %d", k.l, k.text, best, n, e, least)
	}
	if n, e := tag.Count(k.l, k.text); n != len(k.splits) || e != api.OK {
		t.Fatalf("Count: %v, %v: %d %v, not %d", k.l, k.text, n, e, len(k.splits))
	}
	var want [][]int
	for _, s := range k.splits {
		want = append(want, s.items)
	}
	slices.SortFunc(want, slices.Compare)
	fault := api.OK
	if len(want) > 50 {
		want, fault = nil, api.ErrLarge
	}
	if list, e := tag.All(k.l, k.text); !same(list, want) || e != fault {
		t.Fatalf("All: %v, %v: %v %v, not %v %v", k.l, k.text, list, e, want, fault)
	}
}

func TestSplits(t *testing.T) { // P8.2
	count := map[string]int{}
	for _, k := range someCases() {
		checkSplits(t, k)
		least, has := k.least()
		dear := slices.ContainsFunc(k.splits, func(s split) bool { return s.cost > least })
		count[fmt.Sprint(has, dear, len(k.splits) > 50)]++
	}
	for _, n := range []string{"false false false", "true false false", "true true false", "true true true"} {
		if count[n] < 30 {
			t.Error("the cases do not show enough:", count)
		}
	}
}

// fifty is a lexicon by which the text 0 1 1 has just 50 splits: 2 * 5 * 5.
func fifty() api.Lexicon { return plain(w(0), w(0), w(1), w(1), w(1), w(1), w(1)) }

// fiftyOne is one by which it has just 51.
func fiftyOne() api.Lexicon {
	l := fifty()
	l.Items = append(l.Items, item(0, 0, 0, 1, 1))
	return l
}

func TestSplitsByHand(t *testing.T) { // P8.2
	for i, c := range []struct {
		l     api.Lexicon
		text  []int
		least int
		ok    bool
		count int
	}{
		{three(), nil, 0, true, 1},
		{apart(), nil, 0, true, 1},
		{full(), nil, 0, true, 1},
		{three(), w(0, 1), 2, true, 2},
		{apart(), w(0, 1), 3, true, 1},
		{apart(), w(0, 1, 1), 0, false, 0},
		{three(), w(2), 0, false, 0},
		{three(), w(0, 1, 0, 1), 4, true, 4},
		{three(), w(0, 0, 2), 0, false, 0},
		{fifty(), w(0, 1, 1), 0, true, 50},
		{fiftyOne(), w(0, 1, 1), 0, true, 51},
		{eight(), zeros(1), 0, true, 8},
		{eight(), zeros(2), 0, true, 64},
		{eight(), zeros(12), 0, true, 1 << 36},
		{eight(), append(zeros(11), 1), 0, false, 0},
		{eight(), append(w(1), zeros(11)...), 0, false, 0},
		{full(), zeros(12), 297, true, 4},
		{lexicon(always(99), item(0, 99, 0)), zeros(12), 23 * 99, true, 1},
		// What comes first is cheaper, but what follows it is dearer.
		{lexicon(except(0, 1, 2, 9), item(0, 5, 0), item(1, 0, 0), item(2, 1, 1)), w(0, 1), 6, true, 2},
		{lexicon(except(0, 1, 2, 4), item(0, 5, 0), item(1, 0, 0), item(2, 1, 1)), w(0, 1), 5, true, 2},
		// Only one of many ways to the end may go on there.
		{lexicon(except(-1, 3, 0, 2), item(0, 1, 1), item(1, 0, 0), item(2, 0, 0), item(3, 6, 0)), w(0, 1), 9, true, 1},
		{lexicon(except(-1, 0, 3, 2), item(0, 1, 1), item(1, 0, 0), item(2, 0, 0), item(3, 6, 0)), w(1, 0), 9, true, 1},
	} {
		n, ok, e := tag.Least(c.l, c.text)
		if n != c.least || ok != c.ok || e != api.OK {
			t.Errorf("%d: Least: %d %v %v", i, n, ok, e)
		}
		count, e := tag.Count(c.l, c.text)
		if count != c.count || e != api.OK {
			t.Errorf("%d: Count: %d %v", i, count, e)
		}
		list, e := tag.All(c.l, c.text)
		if c.count > 50 && (len(list) > 0 || e != api.ErrLarge) || c.count <= 50 && (len(list) != c.count || e != api.OK) {
			t.Errorf("%d: All: %v %v", i, list, e)
		}
		best, ok, e := tag.Best(c.l, c.text)
		m, f := tag.CheckSplit(c.l, c.text, best)
		if ok != c.ok || e != api.OK || ok && (m != c.least || f != api.OK) || !ok && len(best) > 0 {
			t.Errorf("%d: Best: %v %v %v %d %v", i, best, ok, e, m, f)
		}
	}
}

func TestOrderOfSplits(t *testing.T) { // P8.2
	for i, c := range []struct {
		l    api.Lexicon
		text []int
		want [][]int
	}{
		{three(), nil, [][]int{nil}},
		{three(), w(0, 1), [][]int{w(0, 2), w(1)}},
		{three(), w(1, 0, 1, 0, 1), [][]int{w(2, 0, 2, 0, 2), w(2, 0, 2, 1), w(2, 1, 0, 2), w(2, 1, 1)}},
		{plain(w(0, 0), w(0)), w(0, 0, 0), [][]int{w(0, 1), w(1, 0), w(1, 1, 1)}},
		{plain(w(1), w(0), w(0)), w(0, 1, 0), [][]int{w(1, 0, 1), w(1, 0, 2), w(2, 0, 1), w(2, 0, 2)}},
		{three(), w(3), nil},
	} {
		if list, e := tag.All(c.l, c.text); !same(list, c.want) || e != api.OK {
			t.Errorf("%d: %v %v", i, list, e)
		}
	}
}

func TestCountOfTwoTexts(t *testing.T) { // P8.2, P8.5: by Free, a text of two has at least the product of their splits
	more := 0
	for i, k := range someCases() {
		free, _ := tag.Free(k.l)
		other := someCases()[max(i-1, 0)].text
		if len(k.text)+len(other) > 12 {
			continue
		}
		a, _ := tag.Count(free, k.text)
		b, _ := tag.Count(free, other)
		both, e := tag.Count(free, slices.Concat(k.text, other))
		if both < a*b || e != api.OK {
			t.Fatalf("%v, %v, %v: %d %d %d", free, k.text, other, a, b, both)
		}
		if both > a*b {
			more++
		}
	}
	if more < 30 {
		t.Error("the cases do not show enough:", more)
	}
}

func TestMemoryOfSplits(t *testing.T) { // R5
	l, text, items := roomyLexicon(fifty()), roomy(0, 1, 1), roomy(1, 2, 6)
	// Two items have one word in memory, as arguments may have.
	l.Items[3].Word = l.Items[2].Word
	before := fmt.Sprint(roomOf(l), room(text), room(items))
	all, e := tag.All(l, text)
	best, _, f := tag.Best(l, text)
	empty, g := tag.All(l, text[:0])
	if len(all) != 50 || spoilAll(append(append(all, best), empty...)...) || e != api.OK || f != api.OK || g != api.OK {
		t.Error("lists share memory:", e, f, g)
	}
	tag.CheckSplit(l, text, items)
	tag.Count(l, text)
	tag.Least(l, text)
	if fmt.Sprint(roomOf(l), room(text), room(items)) != before {
		t.Error("an argument was changed:", l, text, items)
	}
}
