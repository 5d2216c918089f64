package machine_test

import (
	"slices"
	"testing"

	"vyakarana/api"
	"vyakarana/machine"
)

func TestShortest(t *testing.T) { // P5.3
	found := map[bool]int{}
	for _, k := range someMachines() {
		if k.m.States > deepest+1 {
			continue
		}
		// A shortest run has fewer arcs than there are states, so that it is one of those that are known.
		var want line
		if len(k.lines) > 0 {
			want = slices.MinFunc(k.lines, byLength)
		}
		u, v, ok, e := machine.Shortest(k.m)
		if !slices.Equal(u, want.u) || !slices.Equal(v, want.v) || ok != (len(k.lines) > 0) || e != api.OK {
			t.Fatalf("%v: %v %v %v %v, not %v", k.m, u, v, ok, e, want)
		}
		found[ok]++
	}
	if found[true] < 100 || found[false] < 20 {
		t.Error("the machines do not show enough:", found)
	}
}

func TestShortestByHand(t *testing.T) { // P5.3
	for i, c := range []struct {
		m    api.Machine
		u, v []int
		ok   bool
	}{
		{one(), nil, nil, true},
		{splitting(), nil, nil, true},
		{made(1, nil), nil, nil, false},
		{made(1, nil, arc(0, 0, 0, 0)), nil, nil, false},
		{made(2, []int{1}, arc(1, 0, 0, 0), arc(1, 1, 0, 0)), nil, nil, false},
		{chain(8), []int{0, 1, 2, 0, 1, 2, 0, 1}, []int{0, 1, 0, 1, 0, 1, 0, 1}, true},
		// The shortest run, not the first one in ascending order.
		{made(3, []int{2}, arc(0, 1, 0, 0), arc(1, 2, 0, 0), arc(0, 2, 5, 5)), []int{5}, []int{5}, true},
		// First what is read, then what is written.
		{made(2, []int{1}, arc(0, 1, 1, 0), arc(0, 1, 0, 3), arc(0, 1, 0, 2)), []int{0}, []int{2}, true},
		{made(4, []int{3}, arc(0, 1, 0, 0), arc(1, 3, 1, 0), arc(0, 2, 0, 5), arc(2, 3, 0, 5)), []int{0, 0}, []int{5, 5}, true},
		{made(4, []int{3}, arc(0, 1, 0, 1), arc(1, 3, 0, 0), arc(0, 2, 0, 0), arc(2, 3, 0, 5), arc(2, 3, 1, 0)), []int{0, 0}, []int{0, 5}, true},
		// An arc that comes first leads to an end only later.
		{made(5, []int{4}, arc(0, 1, 0, 0), arc(1, 2, 0, 0), arc(2, 4, 0, 0), arc(0, 3, 1, 1), arc(3, 4, 1, 1)), []int{1, 1}, []int{1, 1}, true},
	} {
		if u, v, ok, e := machine.Shortest(c.m); !slices.Equal(u, c.u) || !slices.Equal(v, c.v) || ok != c.ok || e != api.OK {
			t.Errorf("%d: %v %v %v %v", i, u, v, ok, e)
		}
	}
}

// both is two states to which two beginnings of runs lead that read the same word, and whether they differ.
type both struct {
	a, b   int
	differ bool
}

// isFunction gathers what two beginnings of runs can come to, until there is nothing new.
func isFunction(m api.Machine) bool {
	seen := map[both]bool{{}: true}
	for before := 0; before < len(seen); {
		before = len(seen)
		var news []both
		for x := range seen {
			for _, a := range m.Arcs {
				for _, b := range m.Arcs {
					if a.From == x.a && b.From == x.b && a.In == b.In {
						news = append(news, both{a.To, b.To, x.differ || a.Out != b.Out})
					}
				}
			}
		}
		for _, x := range news {
			seen[x] = true
		}
	}
	for x := range seen {
		if x.differ && slices.Contains(m.Ends, x.a) && slices.Contains(m.Ends, x.b) {
			return false
		}
	}
	return true
}

func checkTwo(t *testing.T, m api.Machine, want bool) int {
	t.Helper()
	if is, e := machine.IsFunction(m); is != want || e != api.OK {
		t.Fatalf("IsFunction: %v: %v %v", m, is, e)
	}
	w, u, v, ok, e := machine.Two(m)
	if ok == want || e != api.OK || !ok && len(w)+len(u)+len(v) > 0 {
		t.Fatalf("Two: %v: %v %v %v %v %v", m, w, u, v, ok, e)
	}
	if !ok {
		return 0
	}
	if e := machine.CheckTwo(m, w, u, v); e != api.OK {
		t.Fatalf("Two: %v: %v %v %v: %v", m, w, u, v, e)
	}
	if w2, u2, v2, _, _ := machine.Two(m); !same([][]int{w, u, v}, [][]int{w2, u2, v2}) {
		t.Fatalf("Two: %v: %v %v %v, then %v %v %v", m, w, u, v, w2, u2, v2)
	}
	return len(w)
}

func TestTwo(t *testing.T) { // P5.3
	found := map[bool]int{}
	for _, k := range someMachines() {
		is := isFunction(k.m)
		found[is]++
		checkTwo(t, k.m, is)
		if slices.ContainsFunc(k.lines, func(l line) bool { return len(k.images(l.u)) > 1 }) && is {
			t.Fatalf("%v: a word has two images", k.m)
		}
	}
	if found[true] < 50 || found[false] < 50 {
		t.Error("the machines do not show enough:", found)
	}
}

func TestTwoByHand(t *testing.T) { // P5.3, with the chapter's examples
	apart := wheels()
	apart.Arcs[len(apart.Arcs)-1].Out = 0
	for i, c := range []struct {
		m  api.Machine
		is bool
	}{
		{one(), true},
		{made(1, nil), true},
		{exchanging(), true},
		{splitting(), false},
		{all(), false},
		{woven(0, 1, 2, 3, 4, 5, 6), true},
		{made(1, nil, arc(0, 0, 0, 0), arc(0, 0, 0, 1)), true},
		// Two runs may write the same word.
		{made(3, []int{1, 2}, arc(0, 1, 0, 3), arc(0, 2, 0, 3)), true},
		{made(3, []int{1, 2}, arc(0, 1, 0, 3), arc(0, 2, 0, 4)), false},
		// One of the two does not come to an end.
		{made(3, []int{1}, arc(0, 1, 0, 3), arc(0, 2, 0, 4)), true},
		{made(3, []int{1, 2}, arc(0, 1, 0, 3), arc(0, 2, 1, 4)), true},
		// They differ at the beginning alone, and at the end alone.
		{made(4, []int{3}, arc(0, 1, 0, 0), arc(0, 2, 0, 1), arc(1, 3, 0, 0), arc(2, 3, 0, 0)), false},
		{made(4, []int{3}, arc(0, 1, 0, 0), arc(0, 2, 0, 0), arc(1, 3, 0, 0), arc(2, 3, 0, 1)), false},
		{made(4, []int{3}, arc(0, 1, 0, 0), arc(0, 2, 0, 1), arc(1, 3, 0, 0), arc(2, 3, 1, 0)), true},
		// What differs is never reached.
		{made(2, []int{0, 1}, arc(0, 0, 0, 0), arc(1, 1, 0, 0), arc(1, 1, 0, 1)), true},
		{wheels(), false},
		{apart, true},
	} {
		if isFunction(c.m) != c.is {
			t.Error("the test is wrong:", i)
		}
		checkTwo(t, c.m, c.is)
	}
	// Both wheels come to their last states at once only after 15 sounds.
	if n := checkTwo(t, wheels(), false); n < 15 {
		t.Error("not so soon:", n)
	}
}

func TestCheckTwo(t *testing.T) { // P5.3
	for _, k := range someMachines() {
		if len(k.m.Arcs) > 8 {
			continue
		}
		for _, w := range words(2, 2) {
			images := k.images(w)
			for _, u := range words(3, 2) {
				for _, v := range words(3, 2) {
					want := api.ErrProof
					if isIn(images, u) && isIn(images, v) && !slices.Equal(u, v) {
						want = api.OK
					}
					if e := machine.CheckTwo(k.m, w, u, v); e != want {
						t.Fatalf("%v, %v, %v, %v: %v", k.m, w, u, v, e)
					}
				}
			}
		}
	}
}

func isIn(list [][]int, w []int) bool {
	return slices.ContainsFunc(list, func(v []int) bool { return slices.Equal(v, w) })
}

func TestCheckTwoByHand(t *testing.T) { // P5.3
	long, other, more := make([]int, 200), make([]int, 200), make([]int, 201)
	other[199] = 1
	same, bad := slices.Clone(long), slices.Clone(long)
	bad[0] = 2
	for i, c := range []struct {
		m       api.Machine
		w, u, v []int
		want    api.Errno
	}{
		{splitting(), []int{0}, []int{0}, []int{1}, api.OK},
		{splitting(), []int{0}, []int{1}, []int{0}, api.OK},
		{splitting(), []int{0}, []int{1}, []int{1}, api.ErrProof},
		{splitting(), []int{1}, []int{1}, []int{0}, api.ErrProof},
		{splitting(), []int{0}, []int{1}, []int{2}, api.ErrProof},
		{splitting(), []int{0}, []int{2}, []int{1}, api.ErrProof},
		{splitting(), []int{0}, []int{1}, []int{0, 0}, api.ErrProof},
		{splitting(), []int{0}, nil, []int{1}, api.ErrProof},
		{splitting(), nil, nil, []int{1}, api.ErrProof},
		{splitting(), nil, nil, nil, api.ErrProof},
		{exchanging(), []int{0}, []int{1}, []int{1}, api.ErrProof},
		{splitting(), long, long, other, api.OK},
		{splitting(), long, other, long, api.OK},
		{splitting(), long, same, long, api.ErrProof},
		{splitting(), long, long, bad, api.ErrProof},
		{splitting(), more, long, other, api.ErrLarge},
		{splitting(), long, more, other, api.ErrLarge},
		{splitting(), long, other, more, api.ErrLarge},
		{splitting(), []int{9}, []int{9}, more, api.ErrLarge},
		{splitting(), []int{0}, []int{0}, []int{6}, api.ErrArg},
		{splitting(), []int{0}, []int{-1}, []int{-1}, api.ErrArg},
		{splitting(), []int{6}, []int{0}, []int{0}, api.ErrArg},
		{woven(0, 1), long, long, other, api.ErrProof},
		{woven(), long, long, other, api.ErrProof},
	} {
		if e := machine.CheckTwo(c.m, c.w, c.u, c.v); e != c.want {
			t.Errorf("%d: %v, not %v", i, e, c.want)
		}
	}
}

func TestMemoryOfTwo(t *testing.T) { // R5
	for _, m := range []api.Machine{splitting(), wheels(), all()} {
		x := roomyMachine(m)
		w, u, v, _, _ := machine.Two(x)
		if spoilAll(w, u, v) {
			t.Error("words share memory:", m)
		}
		if !sameMachine(room(x), room(roomyMachine(m))) {
			t.Error("an argument was changed:", m)
		}
		again := roomy(0)
		if machine.CheckTwo(x, again, again, again); !slices.Equal(again[:cap(again)], make([]int, cap(again))) {
			t.Error("a word was changed:", again)
		}
	}
}
