package stemma

import (
	"cmp"
	"slices"

	"vyakarana/api"
)

// open stands for the reading of a node without a copy, and for that of the parent that the node 0 does not have.
const open = -1

// never is more changes than there are on any tree.
const never = api.MaxNodes

// counts are how many changes there are below a node at fewest, for each reading of the node.
type counts [api.MaxReading + 1]int

// CheckReadings: see P7.4.
func CheckReadings(t [][]int, x api.Tree, place int, readings []int) (int, api.Errno) {
	if e := validateAll(t, x, place); e != api.OK {
		return 0, e
	}
	if len(readings) != len(x.Parents) || !areReadings(readings) {
		return 0, api.ErrArg
	}
	for c, node := range x.At {
		if readings[node] != t[c][place] {
			return 0, api.ErrProof
		}
	}
	return changes(x, readings), api.OK
}

// Fewest: see P7.4.
func Fewest(t [][]int, x api.Tree, place int) (int, bool, api.Errno) {
	readings, ok, e := Readings(t, x, place)
	if !ok {
		return 0, false, e
	}
	return changes(x, readings), true, api.OK
}

// Readings: see P7.4.
func Readings(t [][]int, x api.Tree, place int) ([]int, bool, api.Errno) {
	if e := validateAll(t, x, place); e != api.OK {
		return nil, false, e
	}
	known, ok := atNodes(t, x, place)
	if !ok {
		return nil, false, api.OK
	}
	return complete(x, known), true, api.OK
}

// Total: see P7.4.
func Total(t [][]int, x api.Tree) (int, bool, api.Errno) {
	if e := validateBoth(t, x); e != api.OK {
		return 0, false, e
	}
	sum := 0
	for p := range t[0] {
		n, ok, _ := Fewest(t, x, p)
		if !ok {
			return 0, false, api.OK
		}
		sum += n
	}
	return sum, true, api.OK
}

// validateAll returns the errors of readings and a tree, and then those of a place.
func validateAll(t [][]int, x api.Tree, place int) api.Errno {
	return cmp.Or(validateBoth(t, x), validatePlaces(t, place))
}

// changes returns how many nodes have another reading than their parent.
func changes(x api.Tree, readings []int) int {
	n := 0
	for node := range len(x.Parents) {
		if node > 0 && readings[node] != readings[x.Parents[node]] {
			n++
		}
	}
	return n
}

// atNodes returns the readings of the copies at the nodes, open where there is none; false if copies at one node differ.
func atNodes(t [][]int, x api.Tree, place int) ([]int, bool) {
	list := slices.Repeat([]int{open}, len(x.Parents))
	for c, node := range x.At {
		r := t[c][place]
		if list[node] != open && list[node] != r {
			return nil, false
		}
		list[node] = r
	}
	return list, true
}

// complete returns readings of the nodes with the fewest changes, in which the known ones are kept.
func complete(x api.Tree, known []int) []int {
	below := countBelow(x, known)
	readings := make([]int, len(known))
	for node := range len(known) {
		parent := open
		if node > 0 {
			parent = readings[x.Parents[node]]
		}
		readings[node], _ = below[node].best(parent)
	}
	return readings
}

// countBelow returns the counts of all nodes.
func countBelow(x api.Tree, known []int) []counts {
	list := make([]counts, len(known))
	for behind := range len(known) {
		// A parent is in front of its nodes: from the last node on, what is below a node is counted before the node.
		node := len(known) - 1 - behind
		for r := range list[node] {
			if known[node] != open && known[node] != r {
				list[node][r] = never
			}
		}
		if node > 0 {
			parent := x.Parents[node]
			for r := range list[parent] {
				_, n := list[node].best(r)
				list[parent][r] += n
			}
		}
	}
	return list
}

// best returns the first reading of a node with the fewest changes at the node and below it, and how many these are.
func (below counts) best(parent int) (int, int) {
	best, fewest := 0, 0
	for r, n := range below {
		// With an open parent each reading counts one more, so that none is at an advantage.
		if r != parent {
			n++
		}
		if r == 0 || n < fewest {
			best, fewest = r, n
		}
	}
	return best, fewest
}
