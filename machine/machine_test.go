package machine_test

import (
	"slices"
	"testing"

	"vyakarana/api"
	"vyakarana/machine"
)

func TestValidate(t *testing.T) { // P5.1
	for i, c := range badMachines() {
		if e := machine.Validate(c.value); e != c.want {
			t.Errorf("%d: %v: %v, not %v", i, c.value, e, c.want)
		}
	}
	for _, k := range someMachines() {
		if e := machine.Validate(k.m); e != api.OK {
			t.Errorf("%v: %v", k.m, e)
		}
	}
	sixty := made(9, []int{0, 8})
	for i := range 60 {
		sixty.Arcs = append(sixty.Arcs, arc(i%9, (i/9)%9, i%6, 5-i%6))
	}
	// Arcs that differ in one field alone are different.
	near := made(2, nil, arc(0, 0, 0, 0), arc(1, 0, 0, 0), arc(0, 1, 0, 0), arc(0, 0, 1, 0), arc(0, 0, 0, 1))
	for i, m := range []api.Machine{sixty, near, all(), woven(), one(arc(0, 0, 5, 5)), {States: 1, Arcs: []api.Arc{}, Ends: []int{}}} {
		if e := machine.Validate(m); e != api.OK {
			t.Errorf("%d: %v", i, e)
		}
	}
}

// refusal returns a function that checks that a call was refused with an error, and that all else is zero.
func refusal(t *testing.T, want api.Errno, about ...any) func(name string, e api.Errno, zero bool) {
	return func(name string, e api.Errno, zero bool) {
		t.Helper()
		if e != want || !zero {
			t.Errorf("%s: %v, not %v, all else zero: %v: %v", name, e, want, zero, about)
		}
	}
}

// errorsOfOne calls all functions of one machine and no words of MaxWord sounds.
func errorsOfOne(t *testing.T, m api.Machine, want api.Errno) {
	t.Helper()
	check := refusal(t, want, m)
	u, v, e := machine.CheckRun(m, nil)
	check("CheckRun", e, len(u)+len(v) == 0)
	_, _, e = machine.CheckRun(m, make([]int, 201))
	check("CheckRun of a long run", e, true)
	for _, length := range []int{0, 3, -1} {
		n, e := machine.Count(m, length)
		check("Count", e, n == 0)
	}
	u, v, ok, e := machine.Shortest(m)
	check("Shortest", e, len(u)+len(v) == 0 && !ok)
	is, e := machine.IsFunction(m)
	check("IsFunction", e, !is)
	check("CheckTwo", machine.CheckTwo(m, nil, []int{7}, make([]int, 201)), true)
	w, u, v, ok, e := machine.Two(m)
	check("Two", e, len(w)+len(u)+len(v) == 0 && !ok)
	x, e := machine.Turn(m)
	check("Turn", e, isZero(x))
	x, e = machine.Trim(m)
	check("Trim", e, isZero(x))
}

// errorsOfWords calls all functions of a machine and one word or two.
func errorsOfWords(t *testing.T, m api.Machine, u, v []int, want, wantOfU, wantOfV api.Errno) {
	t.Helper()
	check := refusal(t, want, m, u, v)
	is, e := machine.Relates(m, u, v)
	check("Relates", e, !is)
	run, ok, e := machine.Run(m, u, v)
	check("Run", e, len(run) == 0 && !ok)
	n, e := machine.Runs(m, u, v)
	check("Runs", e, n == 0)
	if wantOfU != api.OK {
		check = refusal(t, wantOfU, m, u)
		list, e := machine.Images(m, u)
		check("Images", e, len(list) == 0)
		is, e = machine.Accepts(m, u)
		check("Accepts", e, !is)
	}
	if wantOfV != api.OK {
		check = refusal(t, wantOfV, m, v)
		list, e := machine.Sources(m, v)
		check("Sources", e, len(list) == 0)
	}
}

func TestErrorsOfMachines(t *testing.T) { // P5.1, R2, R3
	for _, c := range badMachines() {
		errorsOfOne(t, c.value, c.want)
		for _, w := range [][]int{nil, {0}, {9}, make([]int, 9)} {
			errorsOfWords(t, c.value, w, w, c.want, c.want, c.want)
		}
		for _, d := range badMachines() {
			check := refusal(t, c.want, c.value, d.value)
			x, e := machine.Compose(c.value, d.value)
			check("Compose", e, isZero(x))
			x, e = machine.Either(c.value, d.value)
			check("Either", e, isZero(x))
		}
		// Errors of the second machine come before those of what is made.
		for _, m := range []api.Machine{one(), woven(0), all()} {
			check := refusal(t, c.want, m, c.value)
			x, e := machine.Compose(m, c.value)
			check("Compose", e, isZero(x))
			x, e = machine.Either(m, c.value)
			check("Either", e, isZero(x))
			x, e = machine.Compose(c.value, m)
			check("Compose", e, isZero(x))
			x, e = machine.Either(c.value, m)
			check("Either", e, isZero(x))
		}
	}
}

func TestErrorsOfWords(t *testing.T) { // P5.1, R3
	for _, m := range []api.Machine{one(), exchanging(), all(), made(9, nil)} {
		for _, c := range badWords() {
			for _, good := range [][]int{nil, {0}, {5, 5}, make([]int, 8)} {
				errorsOfWords(t, m, c.value, good, c.want, c.want, api.OK)
				errorsOfWords(t, m, good, c.value, c.want, api.OK, c.want)
			}
			// All errors of the first word come before those of the second one.
			for _, d := range badWords() {
				errorsOfWords(t, m, c.value, d.value, c.want, c.want, d.want)
			}
		}
	}
}

func TestCheckRun(t *testing.T) { // P5.2
	good := 0
	for _, k := range someMachines() {
		for _, l := range k.lines {
			good++
			if u, v, e := machine.CheckRun(k.m, l.run); !slices.Equal(u, l.u) || !slices.Equal(v, l.v) || e != api.OK {
				t.Fatalf("%v, %v: %v %v %v", k.m, l.run, u, v, e)
			}
		}
		if len(k.m.Arcs) > 10 {
			continue
		}
		for _, run := range words(len(k.m.Arcs), 3) {
			if slices.ContainsFunc(k.lines, func(l line) bool { return slices.Equal(l.run, run) }) {
				continue
			}
			if u, v, e := machine.CheckRun(k.m, run); len(u)+len(v) > 0 || e != api.ErrProof {
				t.Fatalf("%v, %v: %v %v %v", k.m, run, u, v, e)
			}
			for _, x := range []int{-1, len(k.m.Arcs)} {
				if u, v, e := machine.CheckRun(k.m, plus(run, x)); len(u)+len(v) > 0 || e != api.ErrNone {
					t.Fatalf("%v, %v and %d: %v %v %v", k.m, run, x, u, v, e)
				}
			}
		}
	}
	if good < 1000 {
		t.Error("the machines do not show enough:", good)
	}
}

func TestCheckRunByHand(t *testing.T) { // P5.2
	m := made(3, []int{0, 2}, arc(0, 1, 0, 5), arc(1, 2, 1, 4), arc(1, 0, 2, 3), arc(2, 1, 3, 2))
	long := []int{0}
	for range 99 {
		long = append(long, 1, 3)
	}
	for i, c := range []struct {
		m    api.Machine
		run  []int
		u, v []int
		want api.Errno
	}{
		{m, nil, nil, nil, api.OK},
		{m, []int{0, 1}, []int{0, 1}, []int{5, 4}, api.OK},
		{m, []int{0, 2, 0, 1, 3, 1}, []int{0, 2, 0, 1, 3, 1}, []int{5, 3, 5, 4, 2, 4}, api.OK},
		{m, []int{0}, nil, nil, api.ErrProof},
		{m, []int{1}, nil, nil, api.ErrProof},
		{m, []int{0, 3}, nil, nil, api.ErrProof},
		{m, []int{1, 9, 0}, nil, nil, api.ErrNone},
		{m, []int{0, 1, -1}, nil, nil, api.ErrNone},
		{m, long, nil, nil, api.ErrProof},
		{m, plus(long, 4), nil, nil, api.ErrNone},
		{m, append(slices.Clone(long), 1, 4), nil, nil, api.ErrLarge},
		{m, append(slices.Clone(long), 4, 4), nil, nil, api.ErrLarge},
		{m, make([]int, 201), nil, nil, api.ErrLarge},
		{made(2, []int{1}), nil, nil, nil, api.ErrProof},
		{made(1, nil), nil, nil, nil, api.ErrProof},
		{one(), []int{0}, nil, nil, api.ErrNone},
		{splitting(), make([]int, 201), nil, nil, api.ErrLarge},
		{splitting(), make([]int, 200), make([]int, 200), make([]int, 200), api.OK},
	} {
		if u, v, e := machine.CheckRun(c.m, c.run); !slices.Equal(u, c.u) || !slices.Equal(v, c.v) || e != c.want {
			t.Errorf("%d: %v %v %v", i, u, v, e)
		}
	}
	if u, v, e := machine.CheckRun(m, plus(long, 1)); len(u) != 200 || len(v) != 200 || e != api.OK {
		t.Error(u, v, e)
	}
}
