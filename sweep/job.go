package sweep

import (
	"slices"
	"sort"

	"prelude/api"
	"prelude/keys"
	"prelude/store"
)

// job is what one collect lets go.
type job struct {
	floor int
	next  func() int // the number of the next version to take out, 0 if none is left
}

// newJob is a job of which nothing is done.
func newJob(st *store.Store, floor int, pins []int) job {
	return job{floor, goThrough(st, floor, watched(floor, pins))}
}

// watched is the batches that must go on to see what they see, rising: the floor and the pins.
func watched(floor int, pins []int) []int {
	list := make([]int, len(pins)+1)
	n := copy(list, pins)
	list[n] = floor
	slices.Sort(list)
	return list
}

// goThrough is a closure that answers the next version to take out, call by call, and 0 behind the last one. It is called only when all batches up to the floor are laid. So no key but those of its first call can have anything to let go; and what it has gone past it need not look at again, since a version that is kept is kept whatever else is taken out.
func goThrough(st *store.Store, floor int, watch []int) func() int {
	begun := false
	var set []api.Key  // the keys to come
	var versions []int // of the key that it is at, those to come
	return func() int {
		if !begun {
			set, begun = allKeys(st), true
		}
		for {
			for len(versions) > 0 {
				v := versions[0]
				versions = versions[1:]
				if unseen(st, v, watch) {
					return v
				}
			}
			if len(set) == 0 {
				return 0
			}
			versions = upTo(st, set[0], floor)
			set = set[1:]
		}
	}
}

// allKeys is the set of the keys that have versions.
func allKeys(st *store.Store) []api.Key {
	var list []api.Key
	for part := range st.Parts() {
		list = append(list, st.Keys(part)...)
	}
	set, _ := keys.Sort(list) // the store has nothing but keys
	return set
}

// upTo is the numbers of a key's versions that are not above a batch, the oldest first.
func upTo(st *store.Store, k api.Key, batch int) []int {
	var list []int
	for v := st.Visible(k, batch); v != 0; v = st.Before(v) {
		list = append(list, v)
	}
	slices.Reverse(list)
	return list
}

// unseen tells whether a version that is not above the floor is there, and no watched batch sees it. If one sees it, the first one from its own batch on does: where that one sees a newer version, the later ones do too. It is asked when the version's turn comes, since others may take versions out as well, and then an older one is seen.
func unseen(st *store.Store, v int, watch []int) bool {
	version, e := st.Look(v)
	if e != api.OK {
		return false
	}
	k, _ := st.KeyOf(v)
	first := watch[sort.SearchInts(watch, version.Batch)] // there is one: the floor
	return st.Visible(k, first) != v
}
