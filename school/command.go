package school

import (
	"strconv"
	"strings"

	"vyakarana/api"
)

// greatest is the greatest number of an order.
const greatest = 99

// kind is what an order is about.
type kind int

// The kinds of orders.
const (
	learn kind = iota
	forget
	toggle
	read
	step
	end
	undo
	say
)

// command is an order that was understood, with the number or the word that its kind needs.
type command struct {
	kind   kind
	number int
	word   []int
}

// parse understands an order. All those that it understands have less than MaxLine bytes.
func parse(text string) (command, bool) {
	name, rest, more := strings.Cut(text, " ")
	k, ok := kindOf(name)
	if !ok {
		return command{}, false
	}
	switch k {
	case learn, forget, toggle:
		n, ok := numberIn(rest)
		return command{kind: k, number: n}, ok
	case read:
		w, ok := wordIn(rest)
		return command{kind: k, word: w}, ok
	default:
		return command{kind: k}, !more
	}
}

func kindOf(name string) (kind, bool) {
	switch name {
	case "learn":
		return learn, true
	case "forget":
		return forget, true
	case "switch":
		return toggle, true
	case "read":
		return read, true
	case "step":
		return step, true
	case "end":
		return end, true
	case "undo":
		return undo, true
	case "say":
		return say, true
	}
	return 0, false
}

// numberIn returns the number that a text is, and whether it is one of an order.
func numberIn(text string) (int, bool) {
	n, err := strconv.Atoi(text)
	// What would be written otherwise, as with a sign or a leading zero, is none.
	if err != nil || n < 0 || n > greatest || strconv.Itoa(n) != text {
		return 0, false
	}
	return n, true
}

// wordIn returns the word whose sounds a text gives, and whether it gives a word.
func wordIn(text string) ([]int, bool) {
	if len(text) < 1 || len(text) > api.MaxWord {
		return nil, false
	}
	w := make([]int, len(text))
	for i := range len(text) {
		w[i] = int(text[i]) - '0'
		if w[i] < 0 || w[i] >= api.MaxSounds {
			return nil, false
		}
	}
	return w, true
}
