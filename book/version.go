package book

import (
	"slices"

	"prelude/api"
)

// version is a key, and the place of a transaction that declares it in its set of writes. All versions stand in one map, not in a list or a map for each key, which would keep the room of what was let go: so a book is never larger than its capacity asks for.
type version struct {
	key api.Key
	at  api.Place
}

// count counts one more version, which is newer than all others of its key.
func (b *Book) count(k api.Key, p api.Place) {
	b.charged[version{k, p}] = b.newest[k]
	b.newest[k] = p
}

// thin lets go of those versions of a key that neither the latest batch nor a pinned one sees.
func (b *Book) thin(k api.Key, pinned []int) {
	kept := version{k, b.newest[k]}
	for {
		older := version{k, b.charged[kept]}
		if older.at.Batch == 0 {
			return
		}
		if seen(older.at.Batch, kept.at.Batch, pinned) {
			kept = older
			continue
		}
		b.charged[kept] = b.charged[older]
		delete(b.charged, older)
	}
}

// seen tells whether one of the pinned batches, which rise, sees a version of a batch: it is not below that one, and below the batch of the next newer version. (Versions between the two that nobody sees change nothing: no pin lies there.)
func seen(batch, next int, pinned []int) bool {
	first, _ := slices.BinarySearch(pinned, batch)
	return first < len(pinned) && pinned[first] < next
}
