package machine_test

import (
	"slices"
	"testing"

	"vyakarana/api"
	"vyakarana/machine"
)

// checkImages checks that a machine has just these images of words.
func checkImages(t *testing.T, name string, m api.Machine, images func(w []int) [][]int) {
	t.Helper()
	for _, w := range words(3, 3) {
		want := sorted(images(w))
		if l, e := machine.Images(m, w); !same(l, want) || e != api.OK {
			t.Fatalf("%s: %v, %v: %v %v, not %v", name, m, w, l, e, want)
		}
	}
}

// smallMachines are those of whose words the images are few.
func smallMachines() []known {
	return slices.DeleteFunc(slices.Clone(someMachines()), func(k known) bool { return len(k.m.Arcs) > 15 })
}

func TestTurn(t *testing.T) { // P5.4, S5
	for _, k := range smallMachines() {
		m, e := machine.Turn(k.m)
		want := copied(k.m)
		for i, a := range want.Arcs {
			want.Arcs[i] = arc(a.From, a.To, a.Out, a.In)
		}
		if !sameMachine(m, want) || e != api.OK {
			t.Fatalf("%v: %v %v", k.m, m, e)
		}
		checkImages(t, "Turn", m, k.sources)
		if m, e := machine.Turn(m); !sameMachine(m, k.m) || e != api.OK {
			t.Fatalf("%v: turned twice, %v %v", k.m, m, e)
		}
	}
	m, e := machine.Turn(made(3, []int{1, 2}, arc(2, 1, 5, 0), arc(0, 1, 3, 4), arc(0, 1, 4, 3)))
	if !sameMachine(m, made(3, []int{1, 2}, arc(2, 1, 0, 5), arc(0, 1, 4, 3), arc(0, 1, 3, 4))) || e != api.OK {
		t.Error(m, e)
	}
}

// composed is the composed machine by the definition, however large it is.
func composed(m, n api.Machine) api.Machine {
	c := api.Machine{States: m.States * n.States}
	for s := range c.States {
		if slices.Contains(m.Ends, s/n.States) && slices.Contains(n.Ends, s%n.States) {
			c.Ends = append(c.Ends, s)
		}
	}
	for _, a := range m.Arcs {
		for _, b := range n.Arcs {
			if a.Out == b.In {
				c.Arcs = append(c.Arcs, arc(a.From*n.States+b.From, a.To*n.States+b.To, a.In, b.Out))
			}
		}
	}
	c.Arcs = inOrder(c.Arcs)
	return c
}

// checkMade checks a machine that was made of others, or the error if it would be too large.
func checkMade(t *testing.T, name string, m api.Machine, e api.Errno, want api.Machine) bool {
	t.Helper()
	if want.States > 9 || len(want.Arcs) > 60 {
		if !isZero(m) || e != api.ErrLarge {
			t.Fatalf("%s: %v %v, but %d states and %d arcs", name, m, e, want.States, len(want.Arcs))
		}
		return false
	}
	if !sameMachine(m, want) || e != api.OK || machine.Validate(m) != api.OK {
		t.Fatalf("%s: %v %v, not %v", name, m, e, want)
	}
	return true
}

func TestCompose(t *testing.T) { // P5.4, S5
	list, count := smallMachines(), map[bool]int{}
	for i, k := range list {
		for j := range 12 {
			l := list[(i*7+j*23)%len(list)]
			c, e := machine.Compose(k.m, l.m)
			ok := checkMade(t, "Compose", c, e, composed(k.m, l.m))
			count[ok]++
			if !ok {
				continue
			}
			checkImages(t, "Compose", c, func(w []int) [][]int {
				var images [][]int
				for _, v := range k.images(w) {
					images = append(images, l.images(v)...)
				}
				return images
			})
		}
	}
	if count[true] < 500 || count[false] < 50 {
		t.Error("the machines do not show enough:", count)
	}
}

func TestComposeByHand(t *testing.T) { // P5.4, with the chapter's examples
	same := one(arc(0, 0, 0, 0), arc(0, 0, 1, 1))
	shift := made(2, []int{1}, arc(0, 1, 2, 3), arc(1, 0, 1, 4))
	for i, c := range []struct{ m, n, want api.Machine }{
		{exchanging(), exchanging(), same},
		{one(), one(), one()},
		{made(1, nil), one(), made(1, nil)},
		{one(), made(2, []int{1}), made(2, []int{1})},
		{exchanging(), splitting(), one(arc(0, 0, 1, 0), arc(0, 0, 1, 1))},
		{splitting(), exchanging(), splitting()},
		// The numbers of the states, and In and Out, do not depend on each other.
		{shift, made(3, []int{0, 2}, arc(2, 1, 4, 5), arc(0, 2, 3, 0)), made(6, []int{3, 5}, arc(0, 5, 2, 0), arc(5, 1, 1, 5))},
		// Many pairs of arcs make the same one.
		{all(), all(), all()},
	} {
		if m, e := machine.Compose(c.m, c.n); !sameMachine(m, c.want) || e != api.OK {
			t.Errorf("%d: %v %v, not %v", i, m, e, c.want)
		}
	}
}

// wide is a machine with so many states and arcs, which read 0 and write 0 or 1; as many as there is room
// for lead from the state 0.
func wide(states, arcs int) api.Machine {
	m := made(states, []int{0})
	for i := range arcs {
		m.Arcs = append(m.Arcs, arc(i/(2*states), i/2%states, 0, i%2))
	}
	return m
}

// sixTo has six arcs that write 0, and others; toTen has ten that read 0, and others.
func sixTo(others ...api.Arc) api.Machine {
	m := made(1, nil, others...)
	for s := range 6 {
		m.Arcs = append(m.Arcs, arc(0, 0, s, 0))
	}
	return m
}

func toTen(others ...api.Arc) api.Machine {
	m := made(2, nil, others...)
	for s := range 5 {
		m.Arcs = append(m.Arcs, arc(0, 1, 0, s), arc(0, 0, 0, s))
	}
	return m
}

func TestLimitsOfMade(t *testing.T) { // P5.4, P5.5
	zero, other := one(arc(0, 0, 0, 0)), arc(0, 0, 0, 1)
	for i, c := range []struct {
		m, n            api.Machine
		compose, either api.Errno
	}{
		{made(3, nil), made(3, nil), api.OK, api.OK},
		{made(9, nil), one(), api.OK, api.ErrLarge},
		{one(), made(9, nil), api.OK, api.ErrLarge},
		{made(5, nil), made(2, nil), api.ErrLarge, api.OK},
		{made(4, nil), made(4, nil), api.ErrLarge, api.OK},
		{made(5, nil), made(4, nil), api.ErrLarge, api.ErrLarge},
		{made(4, nil), made(5, nil), api.ErrLarge, api.ErrLarge},
		{made(9, nil), made(9, nil), api.ErrLarge, api.ErrLarge},
		// With one more for each that leads from the state 0: here 12 of all, and the one of the other machine.
		{wide(6, 48), one(), api.OK, api.OK},
		{wide(6, 49), one(), api.OK, api.ErrLarge},
		{one(), wide(6, 48), api.OK, api.OK},
		{one(), wide(6, 49), api.OK, api.ErrLarge},
		{wide(6, 46), zero, api.OK, api.OK},
		{wide(6, 47), zero, api.OK, api.ErrLarge},
		{wide(6, 60), one(), api.OK, api.ErrLarge},
		// 60 arcs, 60 and one without a partner, 60 and one that is the same, 61, 66.
		{sixTo(), toTen(), api.OK, api.OK},
		{sixTo(other), toTen(), api.OK, api.OK},
		{sixTo(other), toTen(arc(0, 0, 1, 0)), api.OK, api.OK},
		{sixTo(other), toTen(arc(1, 1, 1, 0)), api.ErrLarge, api.OK},
		{sixTo(), toTen(arc(1, 1, 0, 0)), api.ErrLarge, api.OK},
	} {
		if m, e := machine.Compose(c.m, c.n); e != c.compose || e != api.OK && !isZero(m) {
			t.Errorf("%d: Compose %v %v", i, e, m)
		}
		if m, e := machine.Either(c.m, c.n); e != c.either || e != api.OK && !isZero(m) {
			t.Errorf("%d: Either %v %v", i, e, m)
		}
	}
}

// joined is Either by the definition, however large it is.
func joined(m, n api.Machine) api.Machine {
	c := api.Machine{States: 1 + m.States + n.States}
	if slices.Contains(m.Ends, 0) || slices.Contains(n.Ends, 0) {
		c.Ends = []int{0}
	}
	for i, x := range []api.Machine{m, n} {
		first := 1 + i*m.States
		for _, s := range x.Ends {
			c.Ends = append(c.Ends, first+s)
		}
		for _, a := range x.Arcs {
			c.Arcs = append(c.Arcs, arc(first+a.From, first+a.To, a.In, a.Out))
			if a.From == 0 {
				c.Arcs = append(c.Arcs, arc(0, first+a.To, a.In, a.Out))
			}
		}
	}
	c.Arcs = inOrder(c.Arcs)
	return c
}

func TestEither(t *testing.T) { // P5.5
	list, count := smallMachines(), map[bool]int{}
	for i, k := range list {
		for j := range 12 {
			l := list[(i*5+j*29)%len(list)]
			c, e := machine.Either(k.m, l.m)
			ok := checkMade(t, "Either", c, e, joined(k.m, l.m))
			count[ok]++
			if ok {
				checkImages(t, "Either", c, func(w []int) [][]int { return slices.Concat(k.images(w), l.images(w)) })
			}
		}
	}
	if count[true] < 500 || count[false] < 50 {
		t.Error("the machines do not show enough:", count)
	}
}

func TestEitherByHand(t *testing.T) { // P5.5
	for i, c := range []struct{ m, n, want api.Machine }{
		{made(1, nil), made(1, nil), made(3, nil)},
		{one(), made(1, nil), made(3, []int{0, 1})},
		{made(1, nil), one(), made(3, []int{0, 2})},
		{made(2, []int{1}), made(3, []int{0, 2}), made(6, []int{0, 2, 3, 5})},
		{
			exchanging(), made(2, []int{1}, arc(1, 0, 4, 4), arc(0, 1, 5, 2)),
			made(4, []int{0, 1, 3}, arc(0, 1, 0, 1), arc(0, 1, 1, 0), arc(0, 3, 5, 2), arc(1, 1, 0, 1), arc(1, 1, 1, 0), arc(2, 3, 5, 2), arc(3, 2, 4, 4)),
		},
		{splitting(), splitting(), made(3, []int{0, 1, 2}, arc(0, 1, 0, 0), arc(0, 1, 0, 1), arc(0, 2, 0, 0), arc(0, 2, 0, 1), arc(1, 1, 0, 0), arc(1, 1, 0, 1), arc(2, 2, 0, 0), arc(2, 2, 0, 1))},
	} {
		if m, e := machine.Either(c.m, c.n); !sameMachine(m, c.want) || e != api.OK {
			t.Errorf("%d: %v %v, not %v", i, m, e, c.want)
		}
	}
}

// leads reports whether some arcs, at most left of them, lead from a state to one of a list.
func leads(m api.Machine, from int, to []int, left int) bool {
	if slices.Contains(to, from) {
		return true
	}
	return left > 0 && slices.ContainsFunc(m.Arcs, func(a api.Arc) bool { return a.From == from && leads(m, a.To, to, left-1) })
}

// trimmed is Trim by the definition.
func trimmed(m api.Machine) api.Machine {
	var keep []int
	for s := range m.States {
		if leads(m, 0, []int{s}, m.States) && leads(m, s, m.Ends, m.States) {
			keep = append(keep, s)
		}
	}
	if !slices.Contains(keep, 0) {
		return made(1, nil)
	}
	c := api.Machine{States: len(keep)}
	for i, s := range keep {
		if slices.Contains(m.Ends, s) {
			c.Ends = append(c.Ends, i)
		}
	}
	for _, a := range m.Arcs {
		from, to := slices.Index(keep, a.From), slices.Index(keep, a.To)
		if from >= 0 && to >= 0 {
			c.Arcs = append(c.Arcs, arc(from, to, a.In, a.Out))
		}
	}
	c.Arcs = inOrder(c.Arcs)
	return c
}

func TestTrim(t *testing.T) { // P5.5
	fewer := 0
	for _, k := range smallMachines() {
		want := trimmed(k.m)
		m, e := machine.Trim(k.m)
		if !sameMachine(m, want) || e != api.OK {
			t.Fatalf("%v: %v %v, not %v", k.m, m, e, want)
		}
		checkImages(t, "Trim", m, k.images)
		if again, e := machine.Trim(m); !sameMachine(again, m) || e != api.OK {
			t.Fatalf("%v: trimmed twice, %v %v", m, again, e)
		}
		if m.States < k.m.States && m.States > 1 {
			fewer++
		}
	}
	if fewer < 20 {
		t.Error("the machines do not show enough:", fewer)
	}
}

func TestTrimByHand(t *testing.T) { // P5.5
	for i, c := range []struct{ m, want api.Machine }{
		{one(), one()},
		{made(1, nil), made(1, nil)},
		{made(1, nil, arc(0, 0, 0, 0)), made(1, nil)},
		{made(9, nil), made(1, nil)},
		{made(9, []int{0, 8}), one()},
		// No end is reached from the state 0, though one is from others.
		{made(3, []int{2}, arc(1, 2, 0, 0), arc(2, 1, 0, 0), arc(0, 0, 1, 1)), made(1, nil)},
		// The state 1 is not reached, and the state 2 leads nowhere.
		{made(4, []int{3}, arc(1, 3, 0, 0), arc(0, 2, 0, 0), arc(0, 3, 1, 2), arc(0, 0, 5, 5)), made(2, []int{1}, arc(0, 0, 5, 5), arc(0, 1, 1, 2))},
		{made(4, []int{1, 3}, arc(3, 0, 4, 4), arc(0, 2, 0, 1), arc(2, 3, 1, 0), arc(1, 0, 0, 0)), made(3, []int{2}, arc(0, 1, 0, 1), arc(1, 2, 1, 0), arc(2, 0, 4, 4))},
		// Far states, in both directions.
		{chain(8), chain(8)},
		{made(5, []int{1}, arc(0, 4, 0, 0), arc(4, 3, 0, 0), arc(3, 2, 0, 0), arc(2, 1, 0, 0)), made(5, []int{1}, arc(0, 4, 0, 0), arc(2, 1, 0, 0), arc(3, 2, 0, 0), arc(4, 3, 0, 0))},
		{made(9, []int{1}, backward(9)...), made(9, []int{1}, inOrder(backward(9))...)},
		// Arcs alone are put in order.
		{one(arc(0, 0, 1, 0), arc(0, 0, 0, 1), arc(0, 0, 0, 0)), one(arc(0, 0, 0, 0), arc(0, 0, 0, 1), arc(0, 0, 1, 0))},
	} {
		if m, e := machine.Trim(c.m); !sameMachine(m, c.want) || e != api.OK {
			t.Errorf("%d: %v %v, not %v", i, m, e, c.want)
		}
	}
}

// backward is arcs from 0 to the last state, and from each state to the one before, those near the end first.
func backward(states int) []api.Arc {
	var list []api.Arc
	for s := 1; s < states-1; s++ {
		list = append(list, arc(s+1, s, 0, 0))
	}
	return append(list, arc(0, states-1, 1, 1))
}

func TestPlain(t *testing.T) { // P5.5, S5
	for sounds := -2; sounds < 10; sounds++ {
		m, e := machine.Plain(sounds)
		if sounds < 1 || sounds > 6 {
			if !isZero(m) || e != api.ErrArg {
				t.Errorf("%d: %v %v", sounds, m, e)
			}
			continue
		}
		want := one()
		for s := range sounds {
			want.Arcs = append(want.Arcs, arc(0, 0, s, s))
		}
		if !sameMachine(m, want) || e != api.OK {
			t.Errorf("%d: %v %v", sounds, m, e)
		}
	}
	plain, _ := machine.Plain(6)
	for _, k := range smallMachines() {
		for _, pair := range [][2]api.Machine{{k.m, plain}, {plain, k.m}} {
			if m, e := machine.Compose(pair[0], pair[1]); !sameMachine(m, made(k.m.States, k.m.Ends, inOrder(k.m.Arcs)...)) || e != api.OK {
				t.Fatalf("%v: %v %v", k.m, m, e)
			}
		}
	}
}

func TestMemoryOfMade(t *testing.T) { // R5
	m := made(3, []int{0, 2}, arc(0, 1, 0, 0), arc(1, 2, 1, 1), arc(2, 0, 1, 0), arc(0, 0, 0, 1))
	x, y := roomyMachine(m), roomyMachine(m)
	for i := range 5 {
		var c api.Machine
		switch i {
		case 0:
			c, _ = machine.Turn(x)
		case 1:
			c, _ = machine.Compose(x, y)
		case 2:
			c, _ = machine.Either(x, y)
		case 3:
			c, _ = machine.Trim(x)
		case 4:
			c, _ = machine.Plain(6)
		}
		if isZero(c) {
			t.Error("nothing was made:", i)
		}
		spoilMachine(c)
		if want := room(roomyMachine(m)); !sameMachine(room(x), want) || !sameMachine(room(y), want) {
			t.Fatal("an argument was changed:", i, x, y)
		}
	}
	if p, _ := machine.Plain(6); !slices.Equal(p.Ends, []int{0}) || len(p.Arcs) != 6 {
		t.Error(p)
	}
}
