package order

import "vyakarana/api"

// The numbers of the grounds.
const (
	special = 1 + iota
	lasting
	inner
	later
	last = later
)

// reason is a ground with what it says for a candidate a against another one b.
type reason struct {
	ground int
	favors func(a, b candidate) bool
}

// reasonsOf returns the reasons of valid grounds, in their order.
func reasonsOf(grounds []int) []reason {
	all := [last + 1]reason{
		special: {special, candidate.isSpecial},
		lasting: {lasting, candidate.lasts},
		inner:   {inner, candidate.isInner},
		later:   {later, candidate.isLater},
	}
	list := make([]reason, len(grounds))
	for i, g := range grounds {
		list[i] = all[g]
	}
	return list
}

// decide returns 1 if a reason decides for a, -1 if for b, and otherwise 0: what it says for both
// decides nothing.
func (r reason) decide(a, b candidate) int {
	forA, forB := r.favors(a, b), r.favors(b, a)
	switch {
	case forA && !forB:
		return 1
	case forB && !forA:
		return -1
	}
	return 0
}

// beats returns the ground by which a beats b, the opposite number of that by which b beats a, or 0.
func beats(reasons []reason, a, b candidate) int {
	for _, r := range reasons {
		if d := r.decide(a, b); d != 0 {
			return d * r.ground
		}
	}
	return 0
}

// champion returns the number of the candidate that beats all others, and true; false if there is none.
func champion(list []candidate, reasons []reason) (int, bool) {
	best := 0
	for i := 1; i < len(list); i++ {
		// Who does not beat one of the others gives way, so that the one who beats all is never passed over.
		if beats(reasons, list[best], list[i]) <= 0 {
			best = i
		}
	}
	// Those behind it are beaten: it would have given way to them.
	for i := range best {
		if beats(reasons, list[best], list[i]) <= 0 {
			return 0, false
		}
	}
	return best, true
}

// choose returns the winner of one or more candidates, with its ground, and the word to which it leads.
func choose(list []candidate, reasons []reason) (api.Choice, []int) {
	best, ok := champion(list, reasons)
	if !ok {
		best = len(list) - 1
	}
	c := list[best]
	ground := 0
	if ok && len(list) > 1 {
		other := 0
		if best == 0 {
			other = 1
		}
		ground = beats(reasons, c, list[other])
	}
	return api.Choice{Rule: c.Rule, Place: c.Place, Ground: ground}, c.after
}
