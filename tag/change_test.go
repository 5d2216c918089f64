package tag_test

import (
	"fmt"
	"math"
	"slices"
	"testing"

	"vyakarana/api"
	"vyakarana/tag"
)

func TestText(t *testing.T) { // P8.5
	for _, k := range someCases() {
		for _, items := range lists(len(k.l.Items), 2) {
			if text, e := tag.Text(k.l, items); !slices.Equal(text, joined(k.l, items)) || e != api.OK {
				if len(joined(k.l, items)) <= 12 || len(text) > 0 || e != api.ErrLarge {
					t.Fatalf("%v, %v: %v %v", k.l, items, text, e)
				}
			}
		}
		for _, s := range k.splits {
			if text, e := tag.Text(k.l, s.items); !slices.Equal(text, k.text) || e != api.OK {
				t.Fatalf("%v, %v: %v %v, not %v", k.l, s.items, text, e, k.text)
			}
		}
	}
}

func TestTextByHand(t *testing.T) { // P8.5
	for i, c := range []struct {
		l           api.Lexicon
		items, text []int
		want        api.Errno
	}{
		{three(), nil, nil, api.OK},
		{three(), w(1, 2, 0), w(0, 1, 1, 0), api.OK},
		// What must not follow does not matter here.
		{apart(), w(0, 0), w(0, 0), api.OK},
		{full(), w(1, 2), w(1, 1, 1, 1, 1, 1, 2, 2, 2, 2, 2, 2), api.OK},
		{full(), w(1, 2, 3), nil, api.ErrLarge},
		{eight(), zeros(12), zeros(12), api.OK},
		{eight(), zeros(13), nil, api.ErrLarge},
		{eight(), zeros(400), nil, api.ErrLarge},
		{three(), append(zeros(11), 1), nil, api.ErrLarge},
		{three(), append(zeros(10), 1), append(zeros(11), 1), api.OK},
		// What there is not is named before what is too long.
		{three(), w(3), nil, api.ErrNone},
		{three(), w(0, -1), nil, api.ErrNone},
		{three(), append(zeros(400), 3), nil, api.ErrNone},
	} {
		if text, e := tag.Text(c.l, c.items); !slices.Equal(text, c.text) || e != c.want {
			t.Errorf("%d: %v %v", i, text, e)
		}
	}
}

func TestBack(t *testing.T) { // P8.5
	for _, l := range someLexicons() {
		want := copied(l)
		for j := range want.Items {
			want.Items[j].Word = turned(l.Items[j].Word)
		}
		for a := range 4 {
			for b := range 4 {
				want.Follow[a][b] = l.Follow[b][a]
			}
		}
		back, e := tag.Back(l)
		if !sameLexicon(back, want) || e != api.OK {
			t.Fatalf("%v: %v %v, not %v", l, back, e, want)
		}
		if again, e := tag.Back(back); !sameLexicon(again, l) || e != api.OK {
			t.Fatalf("%v: %v %v", l, again, e)
		}
		is, _ := tag.IsCode(l)
		if turns, _ := tag.IsCode(back); turns != is {
			t.Fatalf("%v: a code: %v, turned round: %v", l, is, turns)
		}
	}
	l := lexicon([][]int{w(0, 1, 2, 3), w(4, 5, 6, 7), w(8, 9, 10, 11), w(-1, 13, 14, 15)}, item(2, 7, 0, 1, 2), item(1, 3, 5))
	want := lexicon([][]int{w(0, 4, 8, -1), w(1, 5, 9, 13), w(2, 6, 10, 14), w(3, 7, 11, 15)}, item(2, 7, 2, 1, 0), item(1, 3, 5))
	if back, e := tag.Back(l); !sameLexicon(back, want) || e != api.OK {
		t.Error(back, e)
	}
}

func TestSplitsByBack(t *testing.T) { // P8.5: the text turned round has as many splits, and the same Least
	for _, k := range someCases() {
		back, _ := tag.Back(k.l)
		text := turned(k.text)
		least, has := k.least()
		if n, ok, e := tag.Least(back, text); n != least || ok != has || e != api.OK {
			t.Fatalf("%v, %v: %d %v %v, not %d %v", back, text, n, ok, e, least, has)
		}
		if n, e := tag.Count(back, text); n != len(k.splits) || e != api.OK {
			t.Fatalf("%v, %v: %d %v, not %d", back, text, n, e, len(k.splits))
		}
	}
}

func TestDearer(t *testing.T) { // P8.5
	d := dice(9)
	for _, k := range someCases() {
		j := d.below(len(k.l.Items))
		by := d.below(201) - 100
		want := copied(k.l)
		want.Items[j].Cost += by
		l, e := tag.Dearer(k.l, j, by)
		if cost := want.Items[j].Cost; cost < 0 || cost > 99 {
			if !isZero(l) || e != api.ErrArg {
				t.Fatalf("%v, %d, %d: %v %v", k.l, j, by, l, e)
			}
			continue
		}
		if !sameLexicon(l, want) || e != api.OK {
			t.Fatalf("%v, %d, %d: %v %v", k.l, j, by, l, e)
		}
		least, has := k.least()
		if n, ok, _ := tag.Least(l, k.text); ok != has || by > 0 && n < least || by < 0 && n > least {
			t.Fatalf("%v, %d, %d, %v: %d %v, not %d %v", k.l, j, by, k.text, n, ok, least, has)
		}
	}
}

func TestDearerByHand(t *testing.T) { // P8.5
	for i, c := range []struct {
		item, by, cost int
		want           api.Errno
	}{
		{1, 0, 3, api.OK},
		{1, 96, 99, api.OK},
		{1, 97, 0, api.ErrArg},
		{1, -3, 0, api.OK},
		{1, -4, 0, api.ErrArg},
		{2, 98, 99, api.OK},
		{0, -1, 0, api.OK},
		{0, 99, 0, api.ErrArg},
		{0, math.MaxInt, 0, api.ErrArg},
		{0, math.MaxInt - 1, 0, api.ErrArg},
		{0, math.MinInt, 0, api.ErrArg},
		{3, 0, 0, api.ErrNone},
		{-1, 1000, 0, api.ErrNone},
	} {
		l, e := tag.Dearer(three(), c.item, c.by)
		want := api.Lexicon{}
		if c.want == api.OK {
			want = three()
			want.Items[c.item].Cost = c.cost
		}
		if !sameLexicon(l, want) || e != c.want {
			t.Errorf("%d: %v %v", i, l, e)
		}
	}
}

func TestWithout(t *testing.T) { // P8.5
	for _, l := range someLexicons() {
		for j := range l.Items {
			want := copied(l)
			want.Items = slices.Concat(want.Items[:j], want.Items[j+1:])
			fault := api.OK
			if len(l.Items) == 1 {
				want, fault = api.Lexicon{}, api.ErrArg
			}
			if less, e := tag.Without(l, j); !sameLexicon(less, want) || e != fault {
				t.Fatalf("%v, %d: %v %v, not %v %v", l, j, less, e, want, fault)
			}
		}
	}
	for i, c := range []struct {
		l    api.Lexicon
		item int
		want api.Errno
	}{
		{plain(w(0)), 0, api.ErrArg},
		{plain(w(0)), 1, api.ErrNone},
		{plain(w(0)), -1, api.ErrNone},
		{eight(), 7, api.OK},
		{eight(), 8, api.ErrNone},
	} {
		if l, e := tag.Without(c.l, c.item); e != c.want || isZero(l) != (e != api.OK) {
			t.Errorf("%d: %v %v", i, l, e)
		}
	}
}

func TestFree(t *testing.T) { // P8.5
	for _, l := range someLexicons() {
		want := lexicon(always(0), copied(l).Items...)
		if free, e := tag.Free(l); !sameLexicon(free, want) || e != api.OK {
			t.Fatalf("%v: %v %v", l, free, e)
		}
	}
	free, _ := tag.Free(apart())
	if n, e := tag.Count(free, w(0, 1)); n != 2 || e != api.OK {
		t.Error(n, e)
	}
}

func TestMemoryOfChanges(t *testing.T) { // R5
	l, items := roomyLexicon(full()), roomy(1, 2)
	// Two items have one word in memory, and two kinds one list, as arguments may have.
	l.Items[3].Word = l.Items[2].Word
	l.Follow[1] = l.Follow[0]
	before := fmt.Sprint(roomOf(l), room(items))
	for i, do := range []func() (api.Lexicon, api.Errno){
		func() (api.Lexicon, api.Errno) { return tag.Back(l) },
		func() (api.Lexicon, api.Errno) { return tag.Dearer(l, 0, -1) },
		func() (api.Lexicon, api.Errno) { return tag.Dearer(l, 7, 0) },
		func() (api.Lexicon, api.Errno) { return tag.Without(l, 0) },
		func() (api.Lexicon, api.Errno) { return tag.Without(l, 7) },
		func() (api.Lexicon, api.Errno) { return tag.Free(l) },
	} {
		x, e := do()
		if len(x.Items) == 0 || e != api.OK {
			t.Error("nothing was made:", i, e)
		}
		if spoilAll(listsOf(x)...) {
			t.Error("lists of one result share memory:", i)
		}
		clear(room(x.Items))
		clear(room(x.Follow))
		if fmt.Sprint(roomOf(l), room(items)) != before {
			t.Fatal("an argument was changed:", i, l, items)
		}
	}
	text, e := tag.Text(l, items)
	if spoilAll(text); len(text) != 12 || e != api.OK || fmt.Sprint(roomOf(l), room(items)) != before {
		t.Error("an argument was changed:", l, items, text, e)
	}
}
