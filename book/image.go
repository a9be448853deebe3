package book

import (
	"prelude/api"
	"prelude/keys"
)

// canRestore tells whether a snapshot is what a collect keeps, and nothing else.
func canRestore(s api.Snapshot) bool {
	if s.Latest < 0 || s.Latest > api.MaxNumber || !pinsFit(s) {
		return false
	}
	var pinned []int
	for _, p := range s.Pins {
		pinned = append(pinned, p.Batch)
	}
	var chained []api.Key
	for _, c := range s.Chains {
		if !chainFits(c.Versions, s.Latest, pinned) {
			return false
		}
		chained = append(chained, c.Key)
	}
	return keys.Rises(chained)
}

// pinsFit tells whether a snapshot's pins may be those of a book.
func pinsFit(s api.Snapshot) bool {
	if len(s.Pins) > api.MaxPins {
		return false
	}
	lowest := 0
	for _, p := range s.Pins {
		if p.Batch < lowest || p.Batch > s.Latest || p.Count < 1 || p.Count > api.MaxNumber {
			return false
		}
		lowest = p.Batch + 1
	}
	return true
}

// chainFits tells whether a chain's versions may be those of a key right behind a collect.
func chainFits(line []api.Stamp, latest int, pinned []int) bool {
	lowest := 1
	for i, v := range line {
		if v.Batch < lowest || v.Batch > latest || v.Index < 0 || v.Index >= api.MaxTxs {
			return false
		}
		if i > 0 && !seen(line[i-1].Batch, v.Batch, pinned) {
			return false
		}
		lowest = v.Batch + 1
	}
	return len(line) > 0
}

// size is how many versions a snapshot has.
func size(s api.Snapshot) int {
	sum := 0
	for _, c := range s.Chains {
		sum += len(c.Versions)
	}
	return sum
}
