package machine_test

import (
	"slices"
	"testing"

	"vyakarana/api"
	"vyakarana/machine"
)

// runsOf are the runs of a known machine that read u and write v, by the definition.
func (k known) runsOf(u, v []int) [][]int {
	var list [][]int
	for _, l := range k.lines {
		if slices.Equal(l.u, u) && slices.Equal(l.v, v) {
			list = append(list, l.run)
		}
	}
	return list
}

func checkPair(t *testing.T, k known, u, v []int) int {
	t.Helper()
	runs := k.runsOf(u, v)
	if is, e := machine.Relates(k.m, u, v); is != (len(runs) > 0) || e != api.OK {
		t.Fatalf("Relates: %v, %v, %v: %v %v", k.m, u, v, is, e)
	}
	if n, e := machine.Runs(k.m, u, v); n != len(runs) || e != api.OK {
		t.Fatalf("Runs: %v, %v, %v: %v %v, not %d", k.m, u, v, n, e, len(runs))
	}
	run, ok, e := machine.Run(k.m, u, v)
	if ok != (len(runs) > 0) || e != api.OK {
		t.Fatalf("Run: %v, %v, %v: %v %v %v", k.m, u, v, run, ok, e)
	}
	isOne := slices.ContainsFunc(runs, func(r []int) bool { return slices.Equal(r, run) })
	if ok != isOne || !ok && len(run) > 0 {
		t.Fatalf("Run: %v, %v, %v: %v is none of %v", k.m, u, v, run, runs)
	}
	if again, _, _ := machine.Run(k.m, u, v); !slices.Equal(again, run) {
		t.Fatalf("Run: %v, %v, %v: %v, then %v", k.m, u, v, run, again)
	}
	return len(runs)
}

func TestRun(t *testing.T) { // P5.2
	pairs := words(3, 3)
	found := map[bool]int{}
	for i, k := range someMachines() {
		for j, u := range pairs {
			for n, v := range pairs {
				if len(u) == len(v) || (i+j+n)%17 == 0 {
					found[checkPair(t, k, u, v) > 1]++
				}
			}
		}
		for _, l := range k.lines {
			if len(l.run) < deepest {
				continue
			}
			checkPair(t, k, l.u, l.v)
			checkPair(t, k, l.v, l.u)
		}
	}
	if found[true] < 100 || found[false] < 1000 {
		t.Error("the machines do not show enough:", found)
	}
}

func TestRunByHand(t *testing.T) { // P5.2, with the chapter's examples
	seven := 1
	for range 8 {
		seven *= 7
	}
	eight := make([]int, 8)
	for i, c := range []struct {
		m    api.Machine
		u, v []int
		runs int
	}{
		{exchanging(), []int{0, 0, 1}, []int{1, 1, 0}, 1},
		{exchanging(), []int{0, 0, 1}, []int{0, 0, 1}, 0},
		{exchanging(), []int{0, 1}, []int{1}, 0},
		{exchanging(), []int{0}, []int{1, 0}, 0},
		{exchanging(), nil, nil, 1},
		{exchanging(), []int{2}, []int{2}, 0},
		{one(), nil, nil, 1},
		{one(), nil, []int{0}, 0},
		{one(), []int{0}, nil, 0},
		{made(1, nil), nil, nil, 0},
		{made(1, nil, arc(0, 0, 0, 0)), []int{0}, []int{0}, 0},
		{chain(8), []int{0, 1, 2, 0, 1, 2, 0, 1}, []int{0, 1, 0, 1, 0, 1, 0, 1}, 1},
		{chain(8), []int{0, 1, 2, 0, 1, 2, 0, 1}, []int{0, 1, 0, 1, 0, 1, 0, 0}, 0},
		{chain(8), []int{0, 1, 2, 0, 1, 2, 0}, []int{0, 1, 0, 1, 0, 1, 0}, 0},
		// Each state leads to each one, and only the search that remembers what failed ends soon.
		{woven(0, 1, 2, 3, 4, 5, 6), eight, eight, seven},
		{woven(3), eight, eight, seven / 7},
		{woven(), eight, eight, 0},
		// The first arc that fits leads nowhere.
		{made(3, []int{2}, arc(0, 1, 0, 0), arc(0, 0, 0, 0), arc(0, 2, 0, 0)), []int{0, 0}, []int{0, 0}, 1},
		{made(2, []int{0, 1}, arc(0, 1, 0, 0), arc(0, 0, 0, 0), arc(1, 1, 0, 0), arc(1, 0, 0, 0)), []int{0, 0, 0}, []int{0, 0, 0}, 8},
	} {
		if n, e := machine.Runs(c.m, c.u, c.v); n != c.runs || e != api.OK {
			t.Errorf("%d: Runs %d %v", i, n, e)
		}
		if is, e := machine.Relates(c.m, c.u, c.v); is != (c.runs > 0) || e != api.OK {
			t.Errorf("%d: Relates %v %v", i, is, e)
		}
		run, ok, e := machine.Run(c.m, c.u, c.v)
		if ok != (c.runs > 0) || e != api.OK || !ok && len(run) > 0 {
			t.Errorf("%d: Run %v %v %v", i, run, ok, e)
		}
		if u, v, e := machine.CheckRun(c.m, run); ok && (!slices.Equal(u, c.u) || !slices.Equal(v, c.v) || e != api.OK) {
			t.Errorf("%d: Run %v: %v %v %v", i, run, u, v, e)
		}
	}
}

func TestImages(t *testing.T) { // P5.2, S5
	accepted := map[bool]int{}
	for _, k := range someMachines() {
		large := len(k.m.Arcs) > 15
		for _, w := range words(3, deepest) {
			images, sources := k.images(w), k.sources(w)
			if l, e := machine.Images(k.m, w); !large && (!same(l, images) || e != api.OK) {
				t.Fatalf("Images: %v, %v: %v %v, not %v", k.m, w, l, e, images)
			}
			if l, e := machine.Sources(k.m, w); !large && (!same(l, sources) || e != api.OK) {
				t.Fatalf("Sources: %v, %v: %v %v, not %v", k.m, w, l, e, sources)
			}
			if is, e := machine.Accepts(k.m, w); is != (len(images) > 0) || e != api.OK {
				t.Fatalf("Accepts: %v, %v: %v %v", k.m, w, is, e)
			}
			accepted[len(images) > 0]++
		}
	}
	if accepted[true] < 1000 || accepted[false] < 1000 {
		t.Error("the machines do not show enough:", accepted)
	}
}

func TestImagesByHand(t *testing.T) { // P5.2, with the chapter's examples
	for i, c := range []struct {
		m       api.Machine
		w       []int
		images  [][]int
		sources [][]int
	}{
		{exchanging(), []int{0, 0, 1}, [][]int{{1, 1, 0}}, [][]int{{1, 1, 0}}},
		{splitting(), []int{0}, [][]int{{0}, {1}}, [][]int{{0}}},
		{splitting(), []int{0, 0}, [][]int{{0, 0}, {0, 1}, {1, 0}, {1, 1}}, [][]int{{0, 0}}},
		{splitting(), []int{0, 1}, nil, [][]int{{0, 0}}},
		{splitting(), nil, [][]int{nil}, [][]int{nil}},
		{made(2, []int{1}, arc(0, 1, 5, 0)), nil, nil, nil},
		{made(2, []int{1}, arc(0, 1, 5, 0)), []int{5}, [][]int{{0}}, nil},
		{made(2, []int{1}, arc(0, 1, 5, 0)), []int{0}, nil, [][]int{{5}}},
		// The same image by two runs is one image.
		{made(3, []int{1, 2}, arc(0, 2, 0, 3), arc(0, 1, 0, 3), arc(0, 1, 0, 2)), []int{0}, [][]int{{2}, {3}}, nil},
		{woven(0, 6), make([]int, 8), [][]int{make([]int, 8)}, [][]int{make([]int, 8)}},
		// What is written first may lead nowhere.
		{made(3, []int{2}, arc(0, 1, 0, 0), arc(0, 0, 0, 5), arc(0, 2, 0, 4)), []int{0, 0}, [][]int{{5, 4}}, nil},
	} {
		if l, e := machine.Images(c.m, c.w); !same(l, c.images) || e != api.OK {
			t.Errorf("%d: Images %v %v", i, l, e)
		}
		if l, e := machine.Sources(c.m, c.w); !same(l, c.sources) || e != api.OK {
			t.Errorf("%d: Sources %v %v", i, l, e)
		}
		if is, e := machine.Accepts(c.m, c.w); is != (len(c.images) > 0) || e != api.OK {
			t.Errorf("%d: Accepts %v %v", i, is, e)
		}
	}
}

func TestMaxReach(t *testing.T) { // P5.2
	// Words of the first machine are many, and the last sound of all but the first ones is not read.
	cut := all()
	cut.States, cut.Ends = 2, []int{1}
	cut.Arcs = append(cut.Arcs, arc(0, 1, 0, 0))
	zeros := make([]int, 4)
	for i, c := range []struct {
		m    api.Machine
		w    []int
		n    int
		want api.Errno
	}{
		{threeHundred(), zeros, 300, api.OK},
		{oneMore(), zeros, 0, api.ErrLarge},
		{all(), make([]int, 8), 0, api.ErrLarge},
		{all(), []int{5, 4, 3, 2}, 0, api.ErrLarge},
		{all(), []int{5, 4, 3}, 216, api.OK},
		{cut, make([]int, 8), 0, api.ErrLarge},
		{cut, []int{0, 0, 0, 0, 0, 0, 0, 1}, 0, api.OK},
		{splitting(), make([]int, 8), 256, api.OK},
	} {
		l, e := machine.Images(c.m, c.w)
		if len(l) != c.n || e != c.want || !same(l, sorted(slices.Clone(l))) {
			t.Errorf("%d: Images %d %v", i, len(l), e)
		}
		turned, _ := machine.Turn(c.m)
		if s, e := machine.Sources(turned, c.w); !same(s, l) || e != c.want {
			t.Errorf("%d: Sources %d %v", i, len(s), e)
		}
		if is, e := machine.Accepts(c.m, c.w); is != (c.n > 0 || c.want == api.ErrLarge) || e != api.OK {
			t.Errorf("%d: Accepts %v %v", i, is, e)
		}
	}
}

func TestCount(t *testing.T) { // P5.2
	for _, k := range someMachines() {
		var counts [deepest + 1]int
		for _, l := range k.lines {
			counts[len(l.run)]++
		}
		for length, want := range counts {
			if n, e := machine.Count(k.m, length); n != want || e != api.OK {
				t.Fatalf("%v, %d: %d %v, not %d", k.m, length, n, e, want)
			}
		}
	}
	power := 1
	for range 10 {
		power *= 36
	}
	for i, c := range []struct {
		m         api.Machine
		length, n int
		want      api.Errno
	}{
		{splitting(), 3, 8, api.OK},
		{splitting(), 0, 1, api.OK},
		{splitting(), 10, 1024, api.OK},
		{splitting(), 11, 0, api.ErrArg},
		{splitting(), -1, 0, api.ErrArg},
		{made(1, nil), -1, 0, api.ErrArg},
		{made(1, nil), 0, 0, api.OK},
		{made(1, nil, arc(0, 0, 0, 0)), 5, 0, api.OK},
		{all(), 10, power, api.OK},
		{chain(8), 8, 1, api.OK},
		{chain(8), 7, 0, api.OK},
		{chain(8), 9, 0, api.OK},
		{woven(2), 10, 40353607, api.OK},
	} {
		if n, e := machine.Count(c.m, c.length); n != c.n || e != c.want {
			t.Errorf("%d: %d %v", i, n, e)
		}
	}
}

func TestMemoryOfRuns(t *testing.T) { // R5
	m, w := roomyMachine(splitting()), roomy(0, 0, 0)
	run, _, _ := machine.Run(m, w, w)
	u, v, _ := machine.CheckRun(m, run)
	if spoilAll(run, u, v) {
		t.Error("results share memory")
	}
	for _, list := range []func(api.Machine, []int) ([][]int, api.Errno){machine.Images, machine.Sources} {
		l, _ := list(m, w)
		if spoilAll(l...) {
			t.Error("words share memory")
		}
	}
	u, v, _, _ = machine.Shortest(m)
	spoilAll(u, v)
	if !sameMachine(room(m), room(roomyMachine(splitting()))) || !slices.Equal(w[:cap(w)], make([]int, cap(w))) {
		t.Error("an argument was changed:", m, w)
	}
}
