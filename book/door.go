package book

import (
	"prelude/api"
	"prelude/keys"
)

// checkForm tells what is wrong with a batch's lists of writes, whatever the book is.
func checkForm(writes [][]api.Key) api.Errno {
	if len(writes) > api.MaxTxs {
		return api.ErrTxs
	}
	for _, set := range writes {
		if len(set) > api.MaxWrites {
			return api.ErrWrites
		}
		if !keys.Rises(set) {
			return api.ErrSet
		}
	}
	return api.OK
}

// weight is how many versions a batch has.
func weight(writes [][]api.Key) int {
	sum := 0
	for _, set := range writes {
		sum += len(set)
	}
	return sum
}
