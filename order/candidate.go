package order

import (
	"slices"

	"vyakarana/api"
	"vyakarana/feed"
	"vyakarana/rule"
)

// candidate is a step of a word, with its rule and the word to which it leads.
type candidate struct {
	api.Step
	by    api.Rule
	after []int
}

// candidates returns those of a valid word by a valid system, in ascending order.
func candidates(s []api.Rule, w []int) []candidate {
	steps, _ := feed.Steps(s, w)
	list := make([]candidate, len(steps))
	for i, step := range steps {
		by := s[step.Rule]
		after, _ := rule.Apply(by, w, step.Place)
		list[i] = candidate{step, by, after}
	}
	return list
}

// numberOf returns the number of a step among candidates, below 0 if it is none of them.
func numberOf(list []candidate, step api.Step) int {
	return slices.IndexFunc(list, func(c candidate) bool { return c.Step == step })
}

// isSpecial reports whether a is at the place of b, by a rule that is special of that of b.
func (a candidate) isSpecial(b candidate) bool {
	if a.Place != b.Place {
		return false
	}
	ok, _ := rule.IsSpecial(a.by, b.by)
	return ok
}

// lasts reports whether the rule of a still has a step at its place after b was applied.
func (a candidate) lasts(b candidate) bool {
	place := a.Place
	if b.Place < a.Place {
		place += b.growth()
	}
	_, e := rule.Apply(a.by, b.after, place)
	return e == api.OK
}

func (a candidate) isInner(b candidate) bool {
	return a.Place < b.Place
}

func (a candidate) isLater(b candidate) bool {
	return a.Rule > b.Rule
}

// growth returns by how many sounds a candidate makes the word longer.
func (a candidate) growth() int {
	if a.by.From < 0 {
		return len(a.by.To)
	}
	return len(a.by.To) - 1
}
