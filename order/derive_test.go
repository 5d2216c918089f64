package order_test

import (
	"slices"
	"testing"

	"vyakarana/api"
	"vyakarana/feed"
	"vyakarana/order"
)

// errorsOfLarge calls all functions that return ErrLarge with a derivation of too many steps.
func errorsOfLarge(t *testing.T, d derived) {
	t.Helper()
	check := refusal(t, api.ErrLarge, d.s, d.w, d.grounds)
	choices, form, e := order.Derive(d.s, d.w, d.grounds)
	check("Derive", e, len(choices)+len(form) == 0)
	form, e = order.Form(d.s, d.w, d.grounds)
	check("Form", e, len(form) == 0)
	used, e := order.Used(d.s, d.w, d.grounds)
	check("Used", e, len(used) == 0)
	needless, e := order.Needless(d.s, d.w, d.grounds)
	check("Needless", e, len(needless) == 0)
	n, ok, e := order.Differ(d.s, d.w, d.grounds, d.grounds)
	check("Differ", e, n == 0 && !ok)
}

func TestDerive(t *testing.T) { // P4.4, S4
	large, long := 0, 0
	for _, d := range someDerived() {
		if d.large {
			large++
			errorsOfLarge(t, d)
			continue
		}
		long = max(long, len(d.choices))
		choices, form, e := order.Derive(d.s, d.w, d.grounds)
		if !slices.Equal(choices, d.choices) || !slices.Equal(form, d.form) || e != api.OK {
			t.Fatalf("Derive: %v, %v, %v: %v %v %v, not %v %v", d.s, d.w, d.grounds, choices, form, e, d.choices, d.form)
		}
		if form, e := order.Form(d.s, d.w, d.grounds); !slices.Equal(form, d.form) || e != api.OK {
			t.Fatalf("Form: %v, %v, %v: %v %v", d.s, d.w, d.grounds, form, e)
		}
		checkAmongAll(t, d, choices, form)
	}
	if large < 20 || long != api.MaxSteps {
		t.Error("the derivations do not show enough:", large, long)
	}
}

// checkAmongAll checks that a derivation is one of all derivations.
func checkAmongAll(t *testing.T, d derived, choices []api.Choice, form []int) {
	t.Helper()
	var path []api.Step
	for _, c := range choices {
		path = append(path, at(c.Rule, c.Place))
	}
	if v, n, e := feed.CheckPath(d.s, d.w, path); !slices.Equal(v, form) || n != len(path) || e != api.OK {
		t.Fatalf("%v, %v, %v: %v is no path: %v %d %v", d.s, d.w, d.grounds, path, v, n, e)
	}
	if ends, e := feed.Ends(d.s, d.w); e == api.OK && !slices.ContainsFunc(ends, func(v []int) bool { return slices.Equal(v, form) }) {
		t.Fatalf("%v, %v, %v: %v is none of %v", d.s, d.w, d.grounds, form, ends)
	}
	if weights, ok, _ := feed.Weights(d.s); ok {
		if most, _ := feed.Weigh(weights, d.w); len(choices) > most {
			t.Fatalf("%v, %v, %v: %d choices, but a weight of %d", d.s, d.w, d.grounds, len(choices), most)
		}
	}
}

func TestDeriveByHand(t *testing.T) { // P4.4, with the chapter's examples
	front := system(r(0, 1), between([]int{-1}, 0, nil, 2))
	turned := system(front[1], front[0])
	two := system(r(0, 1), r(0, 2))
	for i, c := range []struct {
		s       []api.Rule
		w       []int
		grounds []int
		choices []api.Choice
		form    []int
	}{
		{nil, nil, nil, nil, nil},
		{nil, []int{3, 0}, []int{1, 2, 3, 4}, nil, []int{3, 0}},
		{front, []int{0}, []int{1}, []api.Choice{choice(1, 0, 1)}, []int{2}},
		{front, []int{0}, []int{4}, []api.Choice{choice(1, 0, 4)}, []int{2}},
		{turned, []int{0}, []int{1}, []api.Choice{choice(0, 0, 1)}, []int{2}},
		{turned, []int{0}, []int{4}, []api.Choice{choice(1, 0, 4)}, []int{1}},
		{two, []int{0, 0}, []int{3, 4}, []api.Choice{choice(1, 0, 4), choice(1, 1, 4)}, []int{2, 2}},
		{two, []int{0, 0}, nil, []api.Choice{choice(1, 1, 0), choice(1, 0, 0)}, []int{2, 2}},
		{two[:1], []int{0, 3, 0}, []int{3}, []api.Choice{choice(0, 0, 3), choice(0, 2, 0)}, []int{1, 3, 1}},
		// What a rule makes may be what another one takes: 0 becomes 1 and then 5, at each place.
		{system(r(0, 1), r(1, 5)), []int{0, 0}, []int{4, 3}, []api.Choice{choice(0, 0, 3), choice(1, 0, 4), choice(0, 1, 0), choice(1, 1, 0)}, []int{5, 5}},
		{system(r(0, 1), r(1, 5)), []int{0, 0}, []int{3}, []api.Choice{choice(0, 0, 3), choice(1, 0, 3), choice(0, 1, 0), choice(1, 1, 0)}, []int{5, 5}},
		// Leaving 3 out lasts, and takes the other rule its place.
		{system(between(nil, 0, []int{3}, 1), r(3)), []int{0, 3}, []int{2}, []api.Choice{choice(1, 1, 2)}, []int{0}},
		{system(between(nil, 0, []int{3}, 1), r(3)), []int{0, 3}, []int{3, 2}, []api.Choice{choice(0, 0, 3), choice(1, 1, 0)}, []int{1}},
		// A word that is as long as may be is an end for a rule that would put something in.
		{system(r(-1, 4)), []int{0, 0, 0, 0, 0, 0, 0}, []int{3}, []api.Choice{choice(0, 0, 3)}, []int{4, 0, 0, 0, 0, 0, 0, 0}},
		{system(r(0)), []int{0}, []int{1, 2, 3, 4}, []api.Choice{choice(0, 0, 0)}, nil},
	} {
		if l, v, e := order.Derive(c.s, c.w, c.grounds); !slices.Equal(l, c.choices) || !slices.Equal(v, c.form) || e != api.OK {
			t.Errorf("%d: %v %v %v", i, l, v, e)
		}
		if n, e := order.CheckDerivation(c.s, c.w, c.grounds, c.choices); n != len(c.choices) || e != api.OK {
			t.Errorf("%d: CheckDerivation %d %v", i, n, e)
		}
	}
}

func TestMaxSteps(t *testing.T) { // P4.4
	for _, g := range [][]int{{4}, {4, 3}, {4, 1, 2, 3}} {
		if l, v, e := order.Derive(tree(), sixty(), g); len(l) != 60 || len(v) != 0 || e != api.OK {
			t.Error(g, l, v, e)
		}
		d := derive(tree(), sixtyOne(), g)
		if !d.large {
			t.Error("not large:", g)
		}
		errorsOfLarge(t, d)
	}
	for _, g := range someGrounds() {
		errorsOfLarge(t, derived{s: round(), w: []int{3, 0}, grounds: g})
	}
}

// wrong checks that choices are found not right from a number on.
func wrong(t *testing.T, d derived, l []api.Choice, number int) {
	t.Helper()
	if n, e := order.CheckDerivation(d.s, d.w, d.grounds, l); n != number || e != api.ErrProof {
		t.Fatalf("%v, %v, %v: %v: %d %v, not %d", d.s, d.w, d.grounds, l, n, e, number)
	}
}

// checkWrong changes the choices of a derivation one by one.
func checkWrong(t *testing.T, d derived) {
	t.Helper()
	for i, c := range d.choices {
		wrong(t, d, d.choices[:i], i)
		for _, other := range []api.Choice{
			{Rule: c.Rule + 1, Place: c.Place, Ground: c.Ground}, {Rule: c.Rule, Place: c.Place + 1, Ground: c.Ground}, {Rule: c.Rule, Place: c.Place, Ground: c.Ground + 1},
			{Rule: -1, Place: c.Place, Ground: c.Ground}, {Rule: c.Rule, Place: -1, Ground: c.Ground}, {Rule: c.Rule, Place: c.Place, Ground: -1},
		} {
			l := slices.Clone(d.choices)
			l[i] = other
			wrong(t, d, l, i)
			wrong(t, d, l[:i+1], i)
		}
	}
	if n := len(d.choices); n < api.MaxSteps {
		wrong(t, d, append(slices.Clone(d.choices), choice(0, 0, 0)), n)
	}
}

func TestCheckDerivation(t *testing.T) { // P4.4
	for i, d := range someDerived() {
		n, e := order.CheckDerivation(d.s, d.w, d.grounds, d.choices)
		if d.large {
			// There are as many as may be, all of them right, but the derivation has more.
			if n != api.MaxSteps || e != api.ErrProof {
				t.Fatalf("%v, %v, %v: %d %v", d.s, d.w, d.grounds, n, e)
			}
		} else if n != len(d.choices) || e != api.OK {
			t.Fatalf("%v, %v, %v: %d %v", d.s, d.w, d.grounds, n, e)
		}
		if len(d.choices) < 8 || i%97 == 0 {
			checkWrong(t, d)
		}
		many := slices.Clone(d.choices)
		for len(many) <= api.MaxSteps {
			many = append(many, choice(0, 0, 0))
		}
		if n, e := order.CheckDerivation(d.s, d.w, d.grounds, many); n != 0 || e != api.ErrLarge {
			t.Fatalf("%v, %v, %v: %d choices: %d %v", d.s, d.w, d.grounds, len(many), n, e)
		}
		if len(d.choices) < api.MaxSteps {
			wrong(t, d, many[:api.MaxSteps], len(d.choices))
		}
	}
	wrong(t, derived{s: round(), w: []int{0}}, nil, 0)
}

func TestMemoryOfDerivations(t *testing.T) { // P4.3 to P4.6 with R5
	for _, s := range [][]api.Rule{
		nil, system(r(0, 1), r(0, 2)), halfway(), system(between(roomy(-1, 0), 0, roomy(0, 1), roomy(1, 2)...), api.Rule{From: 2, To: roomy()}), system(r(-1, 3), r(0)),
	} {
		for _, w := range [][]int{roomy(), roomy(0), roomy(0, 0), roomy(0, 0, 1)} {
			g := roomy(4, 1, 3)
			kept, wordBefore, groundsBefore := copied(s), slices.Clone(w[:cap(w)]), slices.Clone(g[:cap(g)])
			choices, form, _ := order.Derive(s, w, g)
			spoil(form)
			claimed := slices.Clone(choices)
			order.CheckDerivation(s, w, g, choices)
			form, _ = order.Form(s, w, g)
			spoil(form)
			forms, _ := order.Forms(s, w)
			bases, _ := order.Bases(s, g, w, 2, 3)
			if spoilAll(forms) || spoilAll(bases) {
				t.Errorf("%v, %v: words of one result share their memory", s, wordBefore)
			}
			used, _ := order.Used(s, w, g)
			spoil(used)
			needless, _ := order.Needless(s, w, g)
			spoil(needless)
			order.Winner(s, w, g)
			order.IsClear(s, w, g)
			order.Differ(s, w, g, roomy(1, 4))
			if !sameSystem(s, kept) || !slices.Equal(w[:cap(w)], wordBefore) || !slices.Equal(g[:cap(g)], groundsBefore) || !slices.Equal(choices, claimed) {
				t.Errorf("%v, %v: an argument was changed: %v, %v, %v", kept, wordBefore, s, w[:cap(w)], g[:cap(g)])
			}
		}
	}
}
