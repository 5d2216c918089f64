package machine

import (
	"cmp"
	"slices"

	"vyakarana/api"
)

// Turn: see P5.4.
func Turn(m api.Machine) (api.Machine, api.Errno) {
	if e := Validate(m); e != api.OK {
		return api.Machine{}, e
	}
	t := api.Machine{States: m.States, Arcs: slices.Clone(m.Arcs), Ends: slices.Clone(m.Ends)}
	for i, a := range m.Arcs {
		t.Arcs[i].In, t.Arcs[i].Out = a.Out, a.In
	}
	return t, api.OK
}

// Compose: see P5.4.
func Compose(m, n api.Machine) (api.Machine, api.Errno) {
	if e := cmp.Or(Validate(m), Validate(n)); e != api.OK {
		return api.Machine{}, e
	}
	c := api.Machine{States: m.States * n.States}
	number := func(a, b int) int { return a*n.States + b }
	for _, a := range m.Arcs {
		for _, b := range n.Arcs {
			if a.Out == b.In {
				c.Arcs = append(c.Arcs, api.Arc{From: number(a.From, b.From), To: number(a.To, b.To), In: a.In, Out: b.Out})
			}
		}
	}
	for _, a := range m.Ends {
		for _, b := range n.Ends {
			c.Ends = append(c.Ends, number(a, b))
		}
	}
	return limited(c)
}

// Either: see P5.5.
func Either(m, n api.Machine) (api.Machine, api.Errno) {
	if e := cmp.Or(Validate(m), Validate(n)); e != api.OK {
		return api.Machine{}, e
	}
	c := api.Machine{States: 1}
	if isEnd(m, 0) || isEnd(n, 0) {
		c.Ends = []int{0}
	}
	add(&c, m)
	add(&c, n)
	return limited(c)
}

// Trim: see P5.5.
func Trim(m api.Machine) (api.Machine, api.Errno) {
	if e := Validate(m); e != api.OK {
		return api.Machine{}, e
	}
	keep := useful(m)
	if !keep[0] {
		return api.Machine{States: 1}, api.OK
	}
	var t api.Machine
	var number [api.MaxStates]int
	for s := range m.States {
		if keep[s] {
			number[s] = t.States
			t.States++
		}
	}
	for _, a := range m.Arcs {
		if keep[a.From] && keep[a.To] {
			t.Arcs = append(t.Arcs, api.Arc{From: number[a.From], To: number[a.To], In: a.In, Out: a.Out})
		}
	}
	for _, s := range m.Ends {
		if keep[s] {
			t.Ends = append(t.Ends, number[s])
		}
	}
	t.Arcs = ascending(t.Arcs)
	return t, api.OK
}

// Plain: see P5.5.
func Plain(sounds int) (api.Machine, api.Errno) {
	if sounds < 1 || sounds > api.MaxSounds {
		return api.Machine{}, api.ErrArg
	}
	m := api.Machine{States: 1, Ends: []int{0}}
	for s := range sounds {
		m.Arcs = append(m.Arcs, api.Arc{In: s, Out: s})
	}
	return m, api.OK
}

// add puts the states of m behind those of c, and gives the state 0 of c copies of the arcs that lead
// from that of m.
func add(c *api.Machine, m api.Machine) {
	first := c.States
	c.States += m.States
	for _, a := range m.Arcs {
		b := api.Arc{From: first + a.From, To: first + a.To, In: a.In, Out: a.Out}
		c.Arcs = append(c.Arcs, b)
		if a.From == 0 {
			b.From = 0
			c.Arcs = append(c.Arcs, b)
		}
	}
	for _, s := range m.Ends {
		c.Ends = append(c.Ends, first+s)
	}
}

// limited returns a machine with its arcs in ascending order, each once, if it is not too large.
func limited(m api.Machine) (api.Machine, api.Errno) {
	m.Arcs = ascending(m.Arcs)
	if m.States > api.MaxStates || len(m.Arcs) > api.MaxArcs {
		return api.Machine{}, api.ErrLarge
	}
	return m, api.OK
}

// ascending returns arcs in ascending order, each once.
func ascending(arcs []api.Arc) []api.Arc {
	list := slices.Clone(arcs)
	slices.SortFunc(list, func(a, b api.Arc) int {
		return cmp.Or(cmp.Compare(a.From, b.From), cmp.Compare(a.To, b.To), cmp.Compare(a.In, b.In), cmp.Compare(a.Out, b.Out))
	})
	return slices.Compact(list)
}

// useful returns the states that are reached from the state 0 and from which an end is reached.
func useful(m api.Machine) group {
	back := make([]api.Arc, len(m.Arcs))
	for i, a := range m.Arcs {
		back[i] = api.Arc{From: a.To, To: a.From}
	}
	after, before := reached(groupOf([]int{0}), m.Arcs), reached(groupOf(m.Ends), back)
	var both group
	for s := range both {
		both[s] = after[s] && before[s]
	}
	return both
}

// reached returns the states to which arcs, one after another or none at all, lead from some.
func reached(from group, arcs []api.Arc) group {
	// Each round goes an arc further at least, and no state is further away than there are states.
	for range api.MaxStates {
		for _, a := range arcs {
			if from[a.From] {
				from[a.To] = true
			}
		}
	}
	return from
}
