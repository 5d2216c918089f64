package school

import (
	"strconv"
	"strings"

	"vyakarana/api"
)

// The numbers by which a sum is made.
const (
	modulus = 1000003
	factor  = 257
)

// Sum: see P9.4.
func Sum(before int, text string) int {
	sum := (before%modulus + modulus) % modulus
	for i := range len(text) {
		sum = (sum*factor + int(text[i]) + 1) % modulus
	}
	return sum
}

// Write: see P9.4.
func Write(orders []string) (string, api.Errno) {
	if len(orders) > api.MaxPages {
		return "", api.ErrLarge
	}
	for _, order := range orders {
		if !isLine(order) {
			return "", api.ErrArg
		}
	}
	var book strings.Builder
	sum := 0
	for _, order := range orders {
		sum = Sum(sum, order)
		book.WriteString(strconv.Itoa(sum) + " " + order + "\n")
	}
	return book.String(), api.OK
}

// Read: see P9.4.
func Read(book string) ([]string, string) {
	var orders []string
	sum := 0
	for len(orders) < api.MaxPages {
		line, rest, ended := strings.Cut(book, "\n")
		mark, order, _ := strings.Cut(line, " ")
		if !ended || !isLine(order) {
			break
		}
		sum = Sum(sum, order)
		if mark != strconv.Itoa(sum) {
			break
		}
		orders = append(orders, strings.Clone(order))
		book = rest
	}
	return orders, strings.Clone(book)
}

// Merge: see P9.5.
func Merge(a, b string) (string, int, api.Errno) {
	ordersA, restA := Read(a)
	ordersB, restB := Read(b)
	if restA != "" || restB != "" {
		return "", 0, api.ErrBroken
	}
	for i := range min(len(ordersA), len(ordersB)) {
		if ordersA[i] != ordersB[i] {
			return "", i, api.ErrProof
		}
	}
	if len(ordersB) > len(ordersA) {
		return strings.Clone(b), len(ordersB), api.OK
	}
	return strings.Clone(a), len(ordersA), api.OK
}

// isLine reports whether a text may be that of an order in a book.
func isLine(text string) bool {
	return len(text) >= 1 && len(text) <= api.MaxLine && !strings.Contains(text, "\n")
}
