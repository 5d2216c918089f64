package tag

import "vyakarana/api"

// CheckProof: see P8.3.
func CheckProof(l api.Lexicon, text []int, proof [][]int) (int, bool, api.Errno) {
	if e := validate(l, text); e != api.OK {
		return 0, false, e
	}
	if !areRows(proof, len(text)+1, len(l.Items), -api.MaxProof, api.MaxProof) {
		return 0, false, api.ErrArg
	}
	if !holds(l, text, proof) {
		return 0, false, api.ErrProof
	}
	if len(text) == 0 {
		return 0, true, api.OK
	}
	n, ok := worth(l, text, proof[len(text)])
	return n, ok, api.OK
}

// Proof: see P8.3.
func Proof(l api.Lexicon, text []int) ([][]int, api.Errno) {
	if e := validate(l, text); e != api.OK {
		return nil, e
	}
	table := endings(l, text)
	if whole(table).count == 0 {
		return nil, api.ErrNone
	}
	proof := make([][]int, len(table))
	for place, row := range table {
		for _, x := range row {
			proof[place] = append(proof[place], x.least)
		}
	}
	return proof, api.OK
}

// holds reports whether each number at which a word ends is no greater than it may be.
func holds(l api.Lexicon, text []int, proof [][]int) bool {
	for place, row := range proof {
		for j, item := range l.Items {
			if isEnd(item.Word, text[:place]) && row[j] > greatest(l, proof, place-len(item.Word), j) {
				return false
			}
		}
	}
	return true
}

// greatest returns the greatest number that the item j may have in a proof where its word ends that begins at a place.
func greatest(l api.Lexicon, proof [][]int, from, j int) int {
	if from == 0 {
		return l.Items[j].Cost
	}
	most := api.MaxProof
	for k, number := range proof[from] {
		if n := follow(l, k, j); n >= 0 {
			most = min(most, number+n+l.Items[j].Cost)
		}
	}
	return most
}

// worth returns the smallest number of the items whose word is an end of a text; false if there are none.
func worth(l api.Lexicon, text, row []int) (int, bool) {
	least, ok := 0, false
	for j, item := range l.Items {
		if isEnd(item.Word, text) && (!ok || row[j] < least) {
			least, ok = row[j], true
		}
	}
	return least, ok
}
