package machine

import (
	"slices"

	"vyakarana/api"
)

// IsFunction: see P5.3.
func IsFunction(m api.Machine) (bool, api.Errno) {
	_, _, _, ok, e := Two(m)
	return e == api.OK && !ok, e
}

// CheckTwo: see P5.3.
func CheckTwo(m api.Machine, w, u, v []int) api.Errno {
	if e := Validate(m); e != api.OK {
		return e
	}
	if len(w) > api.MaxPairs || len(u) > api.MaxPairs || len(v) > api.MaxPairs {
		return api.ErrLarge
	}
	if !areSounds(w) || !areSounds(u) || !areSounds(v) {
		return api.ErrArg
	}
	if slices.Equal(u, v) || !isImage(m, w, u) || !isImage(m, w, v) {
		return api.ErrProof
	}
	return api.OK
}

// Two: see P5.3.
func Two(m api.Machine) ([]int, []int, []int, bool, api.Errno) {
	if e := Validate(m); e != api.OK {
		return nil, nil, nil, false, e
	}
	t, ok := two(m)
	return t.w, t.u, t.v, ok, api.OK
}

// isImage reports whether v is an image of u, words of any length.
func isImage(m api.Machine, u, v []int) bool {
	return len(u) == len(v) && hasRun(m, len(u), relating(u, v))
}

// fork is what matters of two beginnings of runs that read the same word: the states to which they
// lead, and whether they write different words.
type fork struct {
	a, b   int
	differ bool
}

// trace is how a fork comes about: what both beginnings read, and what each of them writes.
type trace struct {
	fork
	w, u, v []int
}

// two returns a word with two images, if there is one. Each fork is gone through once, and there are
// fewer of them than MaxPairs, so that CheckTwo accepts each word that is found.
func two(m api.Machine) (trace, bool) {
	ends := groupOf(m.Ends)
	known := map[fork]bool{{}: true}
	queue := []trace{{}}
	for len(queue) > 0 {
		t := queue[0]
		queue = queue[1:]
		if t.differ && ends[t.a] && ends[t.b] {
			return t, true
		}
		for _, next := range t.nexts(m) {
			if !known[next.fork] {
				known[next.fork] = true
				queue = append(queue, next)
			}
		}
	}
	return trace{}, false
}

// nexts returns the traces that are longer by one sound.
func (t trace) nexts(m api.Machine) []trace {
	var list []trace
	for _, a := range m.Arcs {
		for _, b := range m.Arcs {
			if a.From == t.a && b.From == t.b && a.In == b.In {
				list = append(list, trace{
					fork{a.To, b.To, t.differ || a.Out != b.Out},
					longer(t.w, a.In), longer(t.u, a.Out), longer(t.v, b.Out),
				})
			}
		}
	}
	return list
}

// longer returns a word with a sound behind it, in memory of its own.
func longer(w []int, sound int) []int {
	return append(slices.Clone(w), sound)
}
