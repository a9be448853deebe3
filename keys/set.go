package keys

import (
	"slices"

	"prelude/api"
)

// Rises tells whether a list is a set.
func Rises(l []api.Key) bool {
	for i, k := range l {
		if Check(k) != api.OK || i > 0 && Compare(l[i-1], k) >= 0 {
			return false
		}
	}
	return true
}

// Sort is the set of a list's keys.
func Sort(l []api.Key) ([]api.Key, api.Errno) {
	for _, k := range l {
		if e := Check(k); e != api.OK {
			return nil, e
		}
	}
	set := slices.Clone(l)
	slices.SortFunc(set, Compare)
	return slices.Compact(set), api.OK
}

// Find tells how many members of a set are below a key, and whether it stands there.
func Find(l []api.Key, k api.Key) (int, bool) {
	if !Rises(l) {
		return 0, false
	}
	return slices.BinarySearchFunc(l, k, Compare)
}

// Union is the set of the keys of two sets.
func Union(a []api.Key, b []api.Key) ([]api.Key, api.Errno) {
	return choose(a, b, func(inA, inB bool) bool { return true })
}

// Meet is the set of the keys that two sets have in common.
func Meet(a []api.Key, b []api.Key) ([]api.Key, api.Errno) {
	return choose(a, b, func(inA, inB bool) bool { return inA && inB })
}

// Minus is the set of the keys of a that b has not.
func Minus(a []api.Key, b []api.Key) ([]api.Key, api.Errno) {
	return choose(a, b, func(inA, inB bool) bool { return !inB })
}

// choose is the set of those keys of two sets that are wanted, by which of the two they stand in.
func choose(a, b []api.Key, wanted func(inA, inB bool) bool) ([]api.Key, api.Errno) {
	if !Rises(a) || !Rises(b) {
		return nil, api.ErrOrder
	}
	var set []api.Key
	for len(a) > 0 || len(b) > 0 {
		k, inA, inB := lowest(a, b)
		if wanted(inA, inB) {
			set = append(set, k)
		}
		if inA {
			a = a[1:]
		}
		if inB {
			b = b[1:]
		}
	}
	return set, api.OK
}

// lowest is the lowest key of two sets that are not both empty, and which of them it stands in.
func lowest(a, b []api.Key) (api.Key, bool, bool) {
	switch {
	case len(b) == 0:
		return a[0], true, false
	case len(a) == 0:
		return b[0], false, true
	case a[0] == b[0]:
		return a[0], true, true
	case Compare(a[0], b[0]) < 0:
		return a[0], true, false
	}
	return b[0], false, true
}
