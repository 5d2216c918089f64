package stemma_test

import (
	"math"
	"testing"

	"vyakarana/api"
	"vyakarana/stemma"
)

func TestValidate(t *testing.T) { // P7.1
	for i, c := range badReadings() {
		if e := stemma.Validate(c.value); e != c.want {
			t.Errorf("%d: %v: %v, not %v", i, c.value, e, c.want)
		}
	}
	good := [][][]int{{nil}, {{}}, {nil, {}}, make([][]int, 6), {{2}}, {{0, 1, 2, 2, 1, 0}}, {{0}, {1}, {2}, {0}, {1}, {2}}, full()}
	for _, r := range append(good, someReadings()...) {
		if e := stemma.Validate(r); e != api.OK {
			t.Errorf("%v: %v", r, e)
		}
	}
}

func TestValidateTree(t *testing.T) { // P7.1
	for i, c := range badTrees() {
		if e := stemma.ValidateTree(c.value); e != c.want {
			t.Errorf("%d: %v: %v, not %v", i, c.value, e, c.want)
		}
	}
	for i, x := range []api.Tree{
		tree(l(-1)), tree(l(-1), 0), tree(l(-1), 0, 0, 0, 0, 0, 0), tree(chain(16), 15, 0, 15, 3, 8, 1), tree(star(16), 15),
		tree(l(-1, 0, 0, 2, 1, 4, 0), 6, 5, 4, 3, 2, 1),
	} {
		if e := stemma.ValidateTree(x); e != api.OK {
			t.Errorf("%d: %v", i, e)
		}
	}
	d := dice(5)
	for n := range 500 {
		if x := someTree(&d, n%7, 1+n%16); stemma.ValidateTree(x) != api.OK {
			t.Errorf("%v", x)
		}
	}
}

// args are arguments of all functions; those of places are called with p (and q), those of copies with i (and j).
type args struct {
	t            [][]int
	x            api.Tree
	p, q, i, j   int
	readings, to []int
}

// call is a function, what it takes beside readings, and how it is called; zero tells whether all else is zero.
type call struct {
	name                string
	tree, place, places bool
	copy, copies        bool
	do                  func(a args) (e api.Errno, zero bool)
}

func calls() []call {
	return []call{
		{name: "Different", place: true, do: func(a args) (api.Errno, bool) { n, e := stemma.Different(a.t, a.p); return e, n == 0 }},
		{name: "Side", place: true, do: func(a args) (api.Errno, bool) { s, ok, e := stemma.Side(a.t, a.p); return e, len(s) == 0 && !ok }},
		{name: "Conflict", places: true, do: func(a args) (api.Errno, bool) { is, e := stemma.Conflict(a.t, a.p, a.q); return e, !is }},
		{name: "Conflicts", do: func(a args) (api.Errno, bool) { s, e := stemma.Conflicts(a.t); return e, len(s) == 0 }},
		{name: "CanTree", do: func(a args) (api.Errno, bool) { is, e := stemma.CanTree(a.t); return e, !is }},
		{name: "Build", do: func(a args) (api.Errno, bool) { x, ok, e := stemma.Build(a.t); return e, isZero(x) && !ok }},
		{name: "Greatest", do: func(a args) (api.Errno, bool) { s, e := stemma.Greatest(a.t); return e, len(s) == 0 }},
		{name: "CheckReadings", tree: true, place: true, do: func(a args) (api.Errno, bool) {
			n, e := stemma.CheckReadings(a.t, a.x, a.p, a.readings)
			return e, n == 0
		}},
		{name: "Fewest", tree: true, place: true, do: func(a args) (api.Errno, bool) {
			n, ok, e := stemma.Fewest(a.t, a.x, a.p)
			return e, n == 0 && !ok
		}},
		{name: "Readings", tree: true, place: true, do: func(a args) (api.Errno, bool) {
			s, ok, e := stemma.Readings(a.t, a.x, a.p)
			return e, len(s) == 0 && !ok
		}},
		{name: "Total", tree: true, do: func(a args) (api.Errno, bool) { n, ok, e := stemma.Total(a.t, a.x); return e, n == 0 && !ok }},
		{name: "Apart", copies: true, do: func(a args) (api.Errno, bool) { n, e := stemma.Apart(a.t, a.i, a.j); return e, n == 0 }},
		{name: "Doubles", do: func(a args) (api.Errno, bool) { s, e := stemma.Doubles(a.t); return e, len(s) == 0 }},
		{name: "Spell", place: true, do: func(a args) (api.Errno, bool) { s, e := stemma.Spell(a.t, a.p, a.to); return e, len(s) == 0 }},
		{name: "Without", place: true, do: func(a args) (api.Errno, bool) { s, e := stemma.Without(a.t, a.p); return e, len(s) == 0 }},
		{name: "Lose", copy: true, do: func(a args) (api.Errno, bool) { s, e := stemma.Lose(a.t, a.i); return e, len(s) == 0 }},
	}
}

// errorsOf checks that the functions of which something is true refuse the arguments with an error.
func errorsOf(t *testing.T, a args, want api.Errno, is func(c call) bool) {
	t.Helper()
	for _, c := range calls() {
		if !is(c) {
			continue
		}
		if e, zero := c.do(a); e != want || !zero {
			t.Errorf("%s: %v, not %v, all else zero: %v: %v", c.name, e, want, zero, a)
		}
	}
}

// others are arguments with these readings, all else of which is not right, or right for some readings.
func others(r [][]int) []args {
	return []args{
		{t: r, readings: l(0), to: l(0, 1, 2)},
		{t: r, x: tree(l(-1), 0), readings: l(0), to: l(0, 1, 2)},
		{t: r, x: tree(l(0), 0, 0, 0, 0, 0, 0, 9), p: -1, q: 7, i: 7, j: -1, readings: l(5), to: l(0)},
	}
}

func TestErrorsOfReadings(t *testing.T) { // P7.1, R2, R3
	for _, c := range badReadings() {
		for _, a := range others(c.value) {
			errorsOf(t, a, c.want, func(call) bool { return true })
		}
		for _, x := range badTrees() {
			errorsOf(t, args{t: c.value, x: x.value}, c.want, func(c call) bool { return c.tree })
		}
	}
}

func TestErrorsOfTrees(t *testing.T) { // P7.1, R2, R3
	for _, r := range [][][]int{{{0}}, {nil}, {nil, nil}, square(), full()} {
		for _, x := range badTrees() {
			for _, p := range l(0, -1, 6) {
				errorsOf(t, args{t: r, x: x.value, p: p, readings: l(0)}, x.want, func(c call) bool { return c.tree })
			}
		}
		for at := range 7 {
			x := tree(l(-1, 0), make([]int, at)...)
			if at == len(r) {
				continue
			}
			for _, p := range l(0, -1, 6, math.MaxInt) {
				errorsOf(t, args{t: r, x: x, p: p, readings: l(5)}, api.ErrFit, func(c call) bool { return c.tree })
			}
		}
	}
}

func TestErrorsOfPlaces(t *testing.T) { // P7.1, R3
	for _, r := range [][][]int{{{0}}, {{0, 1}}, {nil}, {nil, nil}, square(), full()} {
		for _, p := range outside(len(r[0])) {
			// What is named next is not right either.
			a := args{t: r, x: tree(l(-1), make([]int, len(r))...), p: p, readings: l(0, 0), to: l(0)}
			errorsOf(t, a, api.ErrNone, func(c call) bool { return c.place })
			a.readings, a.to = l(0), l(0, 1, 2)
			errorsOf(t, a, api.ErrNone, func(c call) bool { return c.place })
			for q := range r[0] {
				errorsOf(t, args{t: r, p: p, q: q}, api.ErrNone, func(c call) bool { return c.places })
				errorsOf(t, args{t: r, p: q, q: p}, api.ErrNone, func(c call) bool { return c.places })
			}
			errorsOf(t, args{t: r, p: p, q: p}, api.ErrNone, func(c call) bool { return c.places })
		}
	}
}

func TestErrorsOfCopies(t *testing.T) { // P7.1, R3
	for _, r := range [][][]int{{{0}}, {nil}, {nil, nil}, square(), full()} {
		for _, i := range outside(len(r)) {
			errorsOf(t, args{t: r, i: i, j: i}, api.ErrNone, func(c call) bool { return c.copy || c.copies })
			for j := range r {
				errorsOf(t, args{t: r, i: i, j: j}, api.ErrNone, func(c call) bool { return c.copies })
				errorsOf(t, args{t: r, i: j, j: i}, api.ErrNone, func(c call) bool { return c.copies })
			}
		}
	}
}

func TestNoErrors(t *testing.T) { // P7.1: numbers that are there
	for _, r := range [][][]int{{{0, 1}, {1, 2}}, square(), full()} {
		places, copies := len(r[0]), len(r)
		x := tree(chain(16), make([]int, copies)...)
		for c := range x.At {
			x.At[c] = 15 - c
		}
		for n := range max(places, copies) {
			a := args{t: r, x: x, p: n % places, q: places - 1, i: n % copies, j: copies - 1, to: l(2, 1, 0)}
			a.readings, _, _ = stemma.Readings(r, x, a.p)
			for _, c := range calls() {
				if e, _ := c.do(a); e != api.OK {
					t.Errorf("%s: %v: %v", c.name, e, a)
				}
			}
		}
	}
}
