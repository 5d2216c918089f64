package feed_test

import (
	"slices"
	"testing"

	"vyakarana/api"
	"vyakarana/feed"
)

// sum is the sum of the weights of sounds, by the definition.
func sum(weights, sounds []int) int {
	n := 0
	for _, s := range sounds {
		n += weights[s]
	}
	return n
}

func holds(s []api.Rule, weights []int) bool {
	for _, x := range s {
		from := 0
		if x.From >= 0 {
			from = weights[x.From]
		}
		if from <= sum(weights, x.To) {
			return false
		}
	}
	return true
}

func TestCheckWeights(t *testing.T) { // P3.5
	for _, s := range someSystems() {
		for _, w := range [][]int{{0, 0, 0, 0, 0, 0}, {1, 1, 1, 1, 1, 1}, {3, 1, 0, 0, 0, 0}, {3, 1, 1, 0, 0, 0}, {7, 3, 1, 0, 0, 0}, {1, 3, 2, 0, 0, 0}, {1000, 499, 10, 1000, 0, 1}} {
			want := api.OK
			if !holds(s, w) {
				want = api.ErrProof
			}
			if e := feed.CheckWeights(s, w); e != want {
				t.Fatalf("%v, %v: %v, not %v", s, w, e, want)
			}
		}
	}
}

func TestCheckWeightsByHand(t *testing.T) { // P3.5
	for i, c := range []struct {
		s       []api.Rule
		weights []int
		want    api.Errno
	}{
		{nil, []int{0, 0, 0, 0, 0, 0}, api.OK},
		{nil, []int{1000, 1000, 1000, 1000, 1000, 1000}, api.OK},
		{system(r(0, 1)), []int{1, 0, 0, 0, 0, 0}, api.OK},
		{system(r(0, 1)), []int{1, 1, 0, 0, 0, 0}, api.ErrProof},
		{system(r(0, 1)), []int{0, 1, 0, 0, 0, 0}, api.ErrProof},
		{system(r(0)), []int{0, 5, 5, 5, 5, 5}, api.ErrProof},
		{system(r(0)), []int{1, 0, 0, 0, 0, 0}, api.OK},
		{system(r(0, 1, 2)), []int{1000, 499, 500, 0, 0, 0}, api.OK},
		{system(r(0, 1, 2)), []int{1000, 500, 500, 0, 0, 0}, api.ErrProof},
		{system(r(0, 1, 1)), []int{1000, 1000, 0, 0, 0, 0}, api.ErrProof},
		{system(r(0, 0, 1)), []int{1000, 0, 0, 0, 0, 0}, api.ErrProof},
		{system(r(-1, 0)), []int{0, 0, 0, 0, 0, 0}, api.ErrProof},
		{system(r(-1, 5, 5)), []int{1, 1, 1, 1, 1, 0}, api.ErrProof},
		// Every rule counts, also one that could never be applied to the same word.
		{system(r(5, 4), r(0, 1)), []int{0, 0, 0, 0, 0, 1}, api.ErrProof},
		{system(r(5, 4), between([]int{-1}, 0, []int{-1}, 1)), []int{2, 1, 0, 0, 0, 1}, api.OK},
		{system(r(5, 4), between([]int{-1}, 0, []int{-1}, 1)), []int{1, 1, 0, 0, 0, 1}, api.ErrProof},
	} {
		if e := feed.CheckWeights(c.s, c.weights); e != c.want {
			t.Errorf("%d: %v", i, e)
		}
	}
}

func TestWeightErrors(t *testing.T) { // P3.5 with R1 to R3
	for _, c := range badSystems() {
		for _, w := range append(badWeights(), []int{0, 0, 0, 0, 0, 0}) {
			if e := feed.CheckWeights(c.value, w); e != c.want {
				t.Errorf("CheckWeights: %v, %v: %v, not %v", c.value, w, e, c.want)
			}
		}
		if l, ok, e := feed.Weights(c.value); len(l) > 0 || ok || e != c.want {
			t.Errorf("Weights: %v: %v %v %v, not %v", c.value, l, ok, e, c.want)
		}
	}
	for _, w := range badWeights() {
		for _, s := range [][]api.Rule{nil, system(r(0, 1)), system(r(-1, 0))} {
			if e := feed.CheckWeights(s, w); e != api.ErrArg {
				t.Errorf("CheckWeights: %v, %v: %v", s, w, e)
			}
		}
		for _, word := range [][]int{nil, {0}, {9}, make([]int, 9)} {
			if n, e := feed.Weigh(w, word); n != 0 || e != api.ErrArg {
				t.Errorf("Weigh: %v, %v: %v %v", w, word, n, e)
			}
		}
	}
	for _, c := range badWords() {
		if n, e := feed.Weigh([]int{1, 1, 1, 1, 1, 1}, c.value); n != 0 || e != c.want {
			t.Errorf("Weigh: %v: %v %v, not %v", c.value, n, e, c.want)
		}
	}
}

// leastOf goes through all weights of the sounds 0 to 2 up to 8, and returns the least of each sound in
// those that hold, and whether there are any.
func leastOf(s []api.Rule) ([]int, bool) {
	least, ok := []int{9, 9, 9, 0, 0, 0}, false
	for n := range 9 * 9 * 9 {
		weights := []int{n % 9, n / 9 % 9, n / 81, 0, 0, 0}
		if holds(s, weights) {
			ok = true
			for i := range least {
				least[i] = min(least[i], weights[i])
			}
		}
	}
	return least, ok
}

// leadsToItself says whether From and To lead from a sound to itself.
func leadsToItself(s []api.Rule) bool {
	var leads [api.MaxSounds][api.MaxSounds]bool
	for range s {
		for _, x := range s {
			for _, a := range x.To {
				if x.From >= 0 {
					leads[x.From][a] = true
					for b := range leads[a] {
						leads[x.From][b] = leads[x.From][b] || leads[a][b]
					}
				}
			}
		}
	}
	for i := range leads {
		if leads[i][i] {
			return true
		}
	}
	return false
}

func TestWeights(t *testing.T) { // P3.5
	for _, s := range someSystems() {
		want, has := leastOf(s)
		if !has {
			want = nil
		}
		weights, ok, e := feed.Weights(s)
		if !slices.Equal(weights, want) || ok != has || e != api.OK {
			t.Fatalf("%v: %v %v %v, not %v %v", s, weights, ok, e, want, has)
		}
		putsIn := slices.ContainsFunc(s, func(x api.Rule) bool { return x.From == -1 })
		if ok == (putsIn || leadsToItself(s)) {
			t.Fatalf("%v: weights %v", s, weights)
		}
	}
}

func TestWeightsByHand(t *testing.T) { // P3.5, with the chapter's examples
	for i, c := range []struct {
		s    []api.Rule
		want []int
	}{
		{nil, []int{0, 0, 0, 0, 0, 0}},
		{system(r(0, 1, 1), r(1)), []int{3, 1, 0, 0, 0, 0}},
		{system(r(5), r(4, 5, 5), r(3, 4, 4), r(2, 3, 3), r(1, 2, 2), r(0, 1, 1)), []int{63, 31, 15, 7, 3, 1}},
		{system(r(0, 1, 1), r(1, 2, 2), r(2, 3, 3), r(3, 4, 4), r(4, 5, 5), r(5)), []int{63, 31, 15, 7, 3, 1}},
		{system(r(0, 1), r(0, 2, 2), r(2, 3)), []int{3, 0, 1, 0, 0, 0}},
		{system(r(0, 2, 2), r(0, 1), r(2, 3)), []int{3, 0, 1, 0, 0, 0}},
		{system(r(0, 1), r(1, 0)), nil},
		{system(r(0, 0, 1)), nil},
		{system(r(0, 1), r(1, 2), r(2, 3), r(3, 4), r(4, 5), r(5, 0)), nil},
		{system(r(0, 1), r(1, 2), r(2, 3), r(3, 4), r(4, 5), r(5)), []int{6, 5, 4, 3, 2, 1}},
		{system(r(0, 1), r(-1, 2)), nil},
		// Neighbors do not count: this system does not go on for ever from any word, but no weights hold.
		{system(between([]int{-1}, 0, nil, 1), between([]int{5}, 1, []int{5}, 0)), nil},
	} {
		l, ok, e := feed.Weights(c.s)
		if !slices.Equal(l, c.want) || ok != (c.want != nil) || e != api.OK {
			t.Errorf("%d: %v %v %v", i, l, ok, e)
		}
		if ok && feed.CheckWeights(c.s, l) != api.OK {
			t.Errorf("%d: %v do not hold", i, l)
		}
	}
}

func TestWeigh(t *testing.T) { // P3.5
	for i, c := range []struct {
		weights, w []int
		want       int
	}{
		{[]int{3, 1, 0, 0, 0, 9}, nil, 0},
		{[]int{3, 1, 0, 0, 0, 9}, []int{0}, 3},
		{[]int{3, 1, 0, 0, 0, 9}, []int{0, 1, 0, 5, 2, 5}, 25},
		{[]int{1000, 1000, 1000, 1000, 1000, 1000}, []int{0, 1, 2, 3, 4, 5, 0, 1}, 8000},
		{[]int{0, 0, 0, 0, 0, 0}, []int{0, 1, 2, 3, 4, 5, 0, 1}, 0},
	} {
		if n, e := feed.Weigh(c.weights, c.w); n != c.want || e != api.OK {
			t.Errorf("%d: %d %v", i, n, e)
		}
	}
}

func TestWeightsBoundSteps(t *testing.T) { // P3.5, S3
	count := 0
	for _, f := range allFollowed() {
		weights, ok, _ := feed.Weights(f.s)
		if !ok || f.large {
			continue
		}
		count++
		limit, e := feed.Weigh(weights, f.w)
		n, ok, g := feed.Longest(f.s, f.w)
		if n > limit || !ok || e != api.OK || g != api.OK {
			t.Fatalf("%v, %v: %d steps, the weight %d by %v", f.s, f.w, n, limit, weights)
		}
	}
	if count < 50 {
		t.Error("the systems do not show enough:", count)
	}
}

func TestMemoryOfWeights(t *testing.T) { // P3.5 with R5
	s := system(r(0, roomy(1)...), api.Rule{From: 1, To: roomy(2, 3), Left: roomy(-1, 0)})
	kept := copied(s)
	weights, w := roomy(2, 1, 0, 0, 0, 0), roomy(0, 1)
	l, _, _ := feed.Weights(s)
	spoil(l)
	feed.CheckWeights(s, weights)
	feed.Weigh(weights, w)
	if !sameSystem(s, kept) || !slices.Equal(weights, []int{2, 1, 0, 0, 0, 0}) || !slices.Equal(w, []int{0, 1}) {
		t.Error("an argument was changed:", s, weights, w)
	}
	if again, _, _ := feed.Weights(s); !slices.Equal(again, []int{2, 1, 0, 0, 0, 0}) {
		t.Error("a second call differs:", again)
	}
}
