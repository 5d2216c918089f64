package rule_test

import (
	"math"
	"slices"
	"testing"

	"vyakarana/api"
	"vyakarana/rule"
)

// inBoth is the set of the neighbors that may be by two sets.
func inBoth(a, b []int) []int {
	return slices.DeleteFunc(allNeighbors(), func(n int) bool { return !mayBe(a, n) || !mayBe(b, n) })
}

func TestMay(t *testing.T) { // P2.3
	for _, r := range manyRules() {
		for side, set := range [][]int{r.Left, r.Right} {
			for _, n := range allNeighbors() {
				if is, e := rule.May(r, side, n); is != mayBe(set, n) || e != api.OK {
					t.Fatalf("%v, %d, %d: %v %v", r, side, n, is, e)
				}
			}
		}
	}
}

func TestMayErrors(t *testing.T) { // P2.3
	r := api.Rule{From: 0, To: []int{1}}
	for _, c := range [][2]int{{-1, 0}, {2, 0}, {0, -2}, {0, 6}, {1, -2}, {1, 6}, {2, 6}, {math.MinInt, 0}, {math.MaxInt, -1}, {0, math.MinInt}, {1, math.MaxInt}} {
		if is, e := rule.May(r, c[0], c[1]); is || e != api.ErrArg {
			t.Errorf("%v: %v %v", c, is, e)
		}
	}
	for _, c := range badRules() {
		for _, side := range []int{0, 1, 7} {
			if is, e := rule.May(c.r, side, 0); is || e != c.want {
				t.Errorf("%v: %v %v, not %v", c.r, is, e, c.want)
			}
		}
	}
}

func TestPairs(t *testing.T) { // P2.3
	for _, r := range someRules() {
		for _, s := range someRules() {
			left, right := inBoth(r.Left, s.Left), inBoth(r.Right, s.Right)
			meet := r.From == s.From && len(left) > 0 && len(right) > 0
			special := r.From == s.From && len(left) == len(inBoth(r.Left, nil)) && len(right) == len(inBoth(r.Right, nil))
			if is, e := rule.IsSpecial(r, s); is != special || e != api.OK {
				t.Fatalf("IsSpecial: %v, %v: %v %v", r, s, is, e)
			}
			if can, e := rule.CanMeet(r, s); can != meet || e != api.OK {
				t.Fatalf("CanMeet: %v, %v: %v %v", r, s, can, e)
			}
			if !meet {
				left, right = nil, nil
			}
			l, m, ok, e := rule.Both(r, s)
			if !slices.Equal(l, left) || !slices.Equal(m, right) || ok != meet || e != api.OK {
				t.Fatalf("Both: %v, %v: %v %v %v %v", r, s, l, m, ok, e)
			}
		}
	}
}

func TestPairsByHand(t *testing.T) { // P2.3
	general := api.Rule{From: 0, To: []int{1}}
	for i, c := range []struct {
		r, s          api.Rule
		special, meet bool
		left, right   []int
	}{
		{general, general, true, true, allNeighbors(), allNeighbors()},
		{api.Rule{From: 0, Left: []int{-1}}, general, true, true, []int{-1}, allNeighbors()},
		{general, api.Rule{From: 0, Left: []int{-1}}, false, true, []int{-1}, allNeighbors()},
		// A set of all neighbors is no more special than the empty one.
		{general, api.Rule{From: 0, Left: allNeighbors()}, true, true, allNeighbors(), allNeighbors()},
		{general, api.Rule{From: 0, Left: []int{0, 1, 2, 3, 4, 5}}, false, true, []int{0, 1, 2, 3, 4, 5}, allNeighbors()},
		{api.Rule{From: 0, Left: []int{1, 2}, Right: []int{3}}, api.Rule{From: 0, Left: []int{1, 2, 3}, Right: []int{3, 4}}, true, true, []int{1, 2}, []int{3}},
		{api.Rule{From: 0, Left: []int{1, 2}, Right: []int{3}}, api.Rule{From: 0, Left: []int{2, 3}, Right: []int{4}}, false, false, nil, nil},
		{api.Rule{From: 0, Left: []int{1}}, api.Rule{From: 0, Left: []int{2}}, false, false, nil, nil},
		{api.Rule{From: 0, Left: []int{1}, Right: []int{5}}, api.Rule{From: 0, Left: []int{1}, Right: []int{-1, 5}}, true, true, []int{1}, []int{5}},
		{api.Rule{From: 1}, general, false, false, nil, nil},
		{api.Rule{From: -1, To: []int{1}, Left: []int{-1}, Right: []int{-1}}, api.Rule{From: -1, To: []int{2}}, true, true, []int{-1}, []int{-1}},
		{api.Rule{From: -1, To: []int{1}}, general, false, false, nil, nil},
	} {
		if is, e := rule.IsSpecial(c.r, c.s); is != c.special || e != api.OK {
			t.Errorf("%d: IsSpecial %v %v", i, is, e)
		}
		if can, e := rule.CanMeet(c.r, c.s); can != c.meet || e != api.OK {
			t.Errorf("%d: CanMeet %v %v", i, can, e)
		}
		if l, m, ok, e := rule.Both(c.r, c.s); !slices.Equal(l, c.left) || !slices.Equal(m, c.right) || ok != c.meet || e != api.OK {
			t.Errorf("%d: Both %v %v %v %v", i, l, m, ok, e)
		}
	}
}

// TestPlacesOfPairs compares IsSpecial and CanMeet with the places in words that have all neighbors.
func TestPlacesOfPairs(t *testing.T) { // P2.3, S2
	all := someRules()
	ws := words(6, 3)
	places := make([][][]int, len(all))
	for i, r := range all {
		for _, w := range ws {
			l, _ := rule.Places(r, w)
			places[i] = append(places[i], l)
		}
	}
	for i, r := range all {
		for j, s := range all {
			if r.From != s.From {
				continue
			}
			within, meets := true, false
			for k := range ws {
				for _, p := range places[i][k] {
					is := slices.Contains(places[j][k], p)
					within, meets = within && is, meets || is
				}
			}
			if is, _ := rule.IsSpecial(r, s); is != within {
				t.Fatalf("IsSpecial: %v, %v: %v", r, s, is)
			}
			if can, _ := rule.CanMeet(r, s); can != meets {
				t.Fatalf("CanMeet: %v, %v: %v", r, s, can)
			}
		}
	}
}

func TestErrorsOfPairs(t *testing.T) { // P2.3 with R2 and R3
	good := api.Rule{From: 0, To: []int{1}}
	check := func(r, s api.Rule, want api.Errno) {
		t.Helper()
		if is, e := rule.IsSpecial(r, s); is || e != want {
			t.Errorf("IsSpecial: %v, %v: %v %v, not %v", r, s, is, e, want)
		}
		if can, e := rule.CanMeet(r, s); can || e != want {
			t.Errorf("CanMeet: %v, %v: %v %v, not %v", r, s, can, e, want)
		}
		if l, m, ok, e := rule.Both(r, s); len(l)+len(m) > 0 || ok || e != want {
			t.Errorf("Both: %v, %v: %v %v %v %v, not %v", r, s, l, m, ok, e, want)
		}
	}
	for _, c := range badRules() {
		check(c.r, good, c.want)
		check(good, c.r, c.want)
		for _, d := range badRules() {
			check(c.r, d.r, c.want)
		}
	}
}

func TestMemoryOfBoth(t *testing.T) { // P2.3 with R5
	r := api.Rule{From: 0, To: roomy(1), Left: roomy(-1, 0, 1), Right: roomy(-1, 0, 1)}
	for _, s := range []api.Rule{copiedRule(r), {From: 0, To: []int{1}}, r} {
		for _, swap := range []bool{false, true} {
			a, b := r, s
			if swap {
				a, b = s, r
			}
			kept, other := copiedRule(r), copiedRule(s)
			left, right, _, _ := rule.Both(a, b)
			spoil(left)
			if !slices.Equal(right, []int{-1, 0, 1}) {
				t.Error("the two sets share their memory")
			}
			spoil(right)
			if !sameRule(r, kept) || !sameRule(s, other) {
				t.Error("an argument was changed:", r, s)
			}
		}
	}
}
