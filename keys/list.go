package keys

import (
	"iter"
	"slices"

	"prelude/api"
)

// Split is a list's keys by their partition.
func Split(l []api.Key, parts int) ([][]api.Key, api.Errno) {
	if !canSplit(parts) {
		return nil, api.ErrParts
	}
	lists := make([][]api.Key, parts)
	for _, k := range l {
		p, e := Partition(k, parts)
		if e != api.OK {
			return nil, e
		}
		lists[p] = append(lists[p], k)
	}
	return lists, api.OK
}

// All goes through a list.
func All(l []api.Key) iter.Seq2[int, api.Key] {
	// The loop may run long behind the call, when the caller has changed the list.
	own := slices.Clone(l)
	return func(yield func(int, api.Key) bool) {
		for i, k := range own {
			if !yield(i, k) {
				return
			}
		}
	}
}
