package tag_test

import (
	"fmt"
	"math"
	"slices"
	"testing"

	"vyakarana/api"
	"vyakarana/tag"
)

// isProof reports whether a proof holds, by the definition: occurrence by occurrence.
func isProof(l api.Lexicon, text []int, proof [][]int) bool {
	for j, x := range l.Items {
		for begin := range text {
			end := begin + len(x.Word)
			if end > len(text) || !slices.Equal(text[begin:end], x.Word) {
				continue
			}
			if begin == 0 && proof[end][j] > x.Cost {
				return false
			}
			for k, before := range l.Items {
				n := l.Follow[before.Kind][x.Kind]
				if begin > 0 && n != -1 && proof[end][j] > proof[begin][k]+n+x.Cost {
					return false
				}
			}
		}
	}
	return true
}

// worthOf is the worth of a proof, by the definition.
func worthOf(l api.Lexicon, text []int, proof [][]int) (int, bool) {
	if len(text) == 0 {
		return 0, true
	}
	var numbers []int
	for j, x := range l.Items {
		if len(x.Word) <= len(text) && slices.Equal(x.Word, text[len(text)-len(x.Word):]) {
			numbers = append(numbers, proof[len(text)][j])
		}
	}
	if len(numbers) == 0 {
		return 0, false
	}
	return slices.Min(numbers), true
}

// evenProof is a proof in which all numbers are the same.
func evenProof(k known, n int) [][]int {
	var proof [][]int
	for range len(k.text) + 1 {
		proof = append(proof, slices.Repeat(w(n), len(k.l.Items)))
	}
	return proof
}

// nearProofs are proofs some of which hold, and some not.
func nearProofs(d *dice, k known) [][][]int {
	list := [][][]int{evenProof(k, 0), evenProof(k, -100000), evenProof(k, 100000), evenProof(k, d.below(40)-20)}
	start, e := tag.Proof(k.l, k.text)
	if e != api.OK {
		start = list[0]
	}
	for range 6 {
		var proof [][]int
		down := d.below(3)
		for _, row := range start {
			row = slices.Clone(row)
			for j := range row {
				row[j] -= d.below(1 + down)
				if d.below(12) == 0 {
					row[j] = min(row[j]+1, 100000)
				}
			}
			proof = append(proof, row)
		}
		list = append(list, proof)
	}
	return list
}

func TestCheckProof(t *testing.T) { // P8.3, S8
	d, count := dice(4), map[string]int{}
	for _, k := range someCases() {
		for _, proof := range nearProofs(&d, k) {
			n, ok, e := tag.CheckProof(k.l, k.text, proof)
			want, has := worthOf(k.l, k.text, proof)
			fault := api.OK
			if !isProof(k.l, k.text, proof) {
				want, has, fault = 0, false, api.ErrProof
			}
			if n != want || ok != has || e != fault {
				t.Fatalf("%v, %v, %v: %d %v %v, not %d %v %v", k.l, k.text, proof, n, ok, e, want, has, fault)
			}
			// No split is cheaper than a proof.
			if least, is := k.least(); is && e == api.OK && (!ok || n > least) {
				t.Fatalf("%v, %v, %v: %d %v, but %d", k.l, k.text, proof, n, ok, least)
			}
			count[fmt.Sprint(e, ok)]++
		}
	}
	if len(count) != 3 || count["0 true"] < 1000 || count["0 false"] < 1000 || count["7 false"] < 1000 {
		t.Error("the proofs do not show enough:", count)
	}
}

func TestCheckProofByHand(t *testing.T) { // P8.3
	top := 100000
	sided := lexicon(except(7, 1, 2, -1), item(1, 10, 0), item(2, 20, 1))
	for i, c := range []struct {
		l     api.Lexicon
		text  []int
		proof [][]int
		worth int
		ok    bool
		want  api.Errno
	}{
		{three(), nil, [][]int{{0, 0, 0}}, 0, true, api.OK},
		{three(), nil, [][]int{{top, -top, 5}}, 0, true, api.OK},
		{three(), w(0, 1), [][]int{{top, top, top}, {1, top, top}, {top, 3, 2}}, 2, true, api.OK},
		{three(), w(0, 1), [][]int{{-top, 0, -top}, {1, top, top}, {-top, 3, 2}}, 2, true, api.OK},
		{three(), w(0, 1), [][]int{{top, top, top}, {0, 9, 9}, {9, 0, 1}}, 0, true, api.OK},
		{three(), w(0, 1), [][]int{{0, 0, 0}, {0, 0, 0}, {0, -top, 1}}, -top, true, api.OK},
		{three(), w(0, 1), [][]int{{top, top, top}, {2, top, top}, {top, 3, 2}}, 0, false, api.ErrProof},
		{three(), w(0, 1), [][]int{{top, top, top}, {1, top, top}, {top, 4, 2}}, 0, false, api.ErrProof},
		{three(), w(0, 1), [][]int{{top, top, top}, {1, top, top}, {top, 3, 3}}, 0, false, api.ErrProof},
		// All items in front count, also those whose words do not end there.
		{three(), w(0, 1), [][]int{{top, top, top}, {1, 0, top}, {top, 3, 2}}, 0, false, api.ErrProof},
		{three(), w(0, 1), [][]int{{top, top, top}, {1, top, -5}, {top, 3, -4}}, -4, true, api.OK},
		{three(), w(0, 1), [][]int{{top, top, top}, {1, top, -5}, {top, 3, -3}}, 0, false, api.ErrProof},
		// What must not follow sets no limit.
		{apart(), w(0, 1), [][]int{{0, 0, 0}, {1, -top, -top}, {0, 3, top}}, 3, true, api.OK},
		{sided, w(0, 1), [][]int{{0, 0}, {10, top}, {0, top}}, top, true, api.OK},
		{sided, w(0, 1), [][]int{{0, 0}, {10, 6}, {0, 34}}, 0, false, api.ErrProof},
		{sided, w(0, 1), [][]int{{0, 0}, {10, 6}, {0, 33}}, 33, true, api.OK},
		{sided, w(1, 0), [][]int{{0, 0}, {top, 20}, {37, 0}}, 37, true, api.OK},
		{sided, w(1, 0), [][]int{{0, 0}, {top, 20}, {38, 0}}, 0, false, api.ErrProof},
		// No word is an end of the text.
		{three(), w(2), [][]int{{0, 0, 0}, {top, top, top}}, 0, false, api.OK},
		{three(), w(0, 2), [][]int{{0, 0, 0}, {1, 5, 5}, {top, top, top}}, 0, false, api.OK},
		{three(), w(0, 2), [][]int{{0, 0, 0}, {2, 5, 5}, {top, top, top}}, 0, false, api.ErrProof},
		// It is not as said, which is named first.
		{three(), w(0), nil, 0, false, api.ErrArg},
		{three(), w(0), [][]int{{9, 9, 9}}, 0, false, api.ErrArg},
		{three(), w(0), [][]int{{9, 9, 9}, {9, 9, 9}, {9, 9, 9}}, 0, false, api.ErrArg},
		{three(), w(0), [][]int{{0, 0, 0}, {9, 9}}, 0, false, api.ErrArg},
		{three(), w(0), [][]int{{0, 0, 0, 0}, {9, 9, 9}}, 0, false, api.ErrArg},
		{three(), w(0), [][]int{nil, {9, 9, 9}}, 0, false, api.ErrArg},
		{three(), w(0), [][]int{{0, 0, top + 1}, {9, 9, 9}}, 0, false, api.ErrArg},
		{three(), w(0), [][]int{{0, 0, 0}, {1, -top - 1, 9}}, 0, false, api.ErrArg},
		{three(), w(0), [][]int{{0, 0, 0}, {9, 9, math.MinInt}}, 0, false, api.ErrArg},
		{three(), w(0), [][]int{{math.MaxInt, 0, 0}, {1, 1, 1}}, 0, false, api.ErrArg},
		{three(), w(2), make([][]int, 400), 0, false, api.ErrArg},
		{three(), nil, nil, 0, false, api.ErrArg},
		{three(), nil, [][]int{{0, 0, 0}, {0, 0, 0}}, 0, false, api.ErrArg},
		{three(), nil, [][]int{{0, 0, top + 1}}, 0, false, api.ErrArg},
	} {
		if n, ok, e := tag.CheckProof(c.l, c.text, c.proof); n != c.worth || ok != c.ok || e != c.want {
			t.Errorf("%d: %d %v %v", i, n, ok, e)
		}
	}
}

func checkProof(t *testing.T, l api.Lexicon, text []int, least int, has bool) {
	t.Helper()
	proof, e := tag.Proof(l, text)
	if !has {
		if len(proof) > 0 || e != api.ErrNone {
			t.Fatalf("%v, %v: %v %v", l, text, proof, e)
		}
		return
	}
	n, ok, f := tag.CheckProof(l, text, proof)
	if e != api.OK || n != least || !ok || f != api.OK || !isProof(l, text, proof) {
		t.Fatalf("%v, %v: %v %v: %d %v %v, not %d", l, text, proof, e, n, ok, f, least)
	}
}

func TestProof(t *testing.T) { // P8.3
	count := map[bool]int{}
	for _, k := range someCases() {
		least, has := k.least()
		checkProof(t, k.l, k.text, least, has)
		count[has]++
	}
	if count[true] < 1000 || count[false] < 1000 {
		t.Error("the cases do not show enough:", count)
	}
	for _, c := range []struct {
		l     api.Lexicon
		text  []int
		least int
		has   bool
	}{
		{three(), nil, 0, true},
		{full(), nil, 0, true},
		{lexicon(always(-1), item(0, 9, 1)), nil, 0, true},
		{three(), w(0, 1), 2, true},
		{apart(), w(0, 1), 3, true},
		{apart(), w(0, 1, 1), 0, false},
		{three(), w(2), 0, false},
		{eight(), zeros(12), 0, true},
		{eight(), append(zeros(11), 1), 0, false},
		{lexicon(always(99), item(3, 99, 0)), zeros(12), 23 * 99, true},
		// An item whose word is an end of the text is the last one of no split.
		{lexicon(except(-1, 0, 1, 5), item(0, 90, 0), item(1, 90, 1), item(2, 0, 1)), w(0, 1), 185, true},
		{plain(w(0, 1, 1), w(1)), w(0, 1, 1), 0, true},
	} {
		checkProof(t, c.l, c.text, c.least, c.has)
	}
}

func TestMemoryOfProofs(t *testing.T) { // R5
	l, text := roomyLexicon(fifty()), roomy(0, 1, 1)
	proof, _ := tag.Proof(l, text)
	argument := roomy[[]int]()
	for _, row := range proof {
		argument = append(argument, roomy(row...))
	}
	before := fmt.Sprint(roomOf(l), room(text), room(argument), room(argument[0]), room(argument[3]))
	if spoilAll(proof...) {
		t.Error("rows share memory")
	}
	if n, ok, e := tag.CheckProof(l, text, argument); n != 0 || !ok || e != api.OK {
		t.Error(n, ok, e)
	}
	if fmt.Sprint(roomOf(l), room(text), room(argument), room(argument[0]), room(argument[3])) != before {
		t.Error("an argument was changed:", l, text, argument)
	}
}
