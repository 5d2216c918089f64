package feed

import (
	"vyakarana/api"
	"vyakarana/rule"
)

// CheckWeights: see P3.5.
func CheckWeights(s []api.Rule, weights []int) api.Errno {
	if e := Validate(s); e != api.OK {
		return e
	}
	if !areWeights(weights) {
		return api.ErrArg
	}
	if !hold(s, weights) {
		return api.ErrProof
	}
	return api.OK
}

// Weights: see P3.5.
func Weights(s []api.Rule) ([]int, bool, api.Errno) {
	if e := Validate(s); e != api.OK {
		return nil, false, e
	}
	weights := make([]int, api.MaxSounds)
	// Each weight grows to no more than it must be in any weights that hold, so the first ones that hold
	// are the smallest; if there are none, one of them grows beyond the limit.
	for !hold(s, weights) {
		for _, r := range s {
			least := weigh(weights, r.To) + 1
			if r.From < 0 || least > api.MaxWeight {
				return nil, false, api.OK
			}
			weights[r.From] = max(weights[r.From], least)
		}
	}
	return weights, true, api.OK
}

// Weigh: see P3.5.
func Weigh(weights, w []int) (int, api.Errno) {
	if !areWeights(weights) {
		return 0, api.ErrArg
	}
	if e := rule.ValidateWord(w); e != api.OK {
		return 0, e
	}
	return weigh(weights, w), api.OK
}

// hold reports whether weights hold for a valid system.
func hold(s []api.Rule, weights []int) bool {
	for _, r := range s {
		if r.From < 0 || weights[r.From] <= weigh(weights, r.To) {
			return false
		}
	}
	return true
}

// weigh returns the sum of the weights of sounds.
func weigh(weights, sounds []int) int {
	sum := 0
	for _, s := range sounds {
		sum += weights[s]
	}
	return sum
}

// areWeights reports whether a list has a weight for each sound.
func areWeights(list []int) bool {
	for _, n := range list {
		if n < 0 || n > api.MaxWeight {
			return false
		}
	}
	return len(list) == api.MaxSounds
}
