package serial

import (
	"slices"
	"sort"

	"prelude/api"
	"prelude/keys"
)

// turn is a batch behind which another cell stands at a key than ahead of it, and that cell.
type turn struct {
	batch int
	cell  api.Cell
}

// history is the maps of all batches in one: for each key that ever had a value its turns, the batches rising. A batch that leaves a key as it was costs nothing.
type history map[api.Key][]turn

// at is what stands at a key behind batch n; of the batch that is being run: behind what of it was run.
func (h history) at(n int, k api.Key) api.Cell { return behind(h[k], n) }

// stand makes a cell stand at a key from batch n on, which is the latest one.
func (h history) stand(n int, k api.Key, c api.Cell) {
	turns := h[k]
	if last := len(turns) - 1; last >= 0 && turns[last].batch == n {
		turns = turns[:last]
	}
	if behind(turns, n) != c {
		turns = append(turns, turn{batch: n, cell: c})
	}
	if len(turns) == 0 {
		delete(h, k)
		return
	}
	h[k] = turns
}

// rows is all keys that have a value behind batch n, with their values, in the order of keys.
func (h history) rows(n int) []api.Row {
	var list []api.Row
	for k, turns := range h {
		if c := behind(turns, n); c.Is {
			list = append(list, api.Row{Key: k, Value: c.Value})
		}
	}
	slices.SortFunc(list, func(a, b api.Row) int { return keys.Compare(a.Key, b.Key) })
	return list
}

// behind is the cell behind batch n: that of the last turn up to there.
func behind(turns []turn, n int) api.Cell {
	later := sort.Search(len(turns), func(i int) bool { return turns[i].batch > n })
	if later == 0 {
		return api.Cell{}
	}
	return turns[later-1].cell
}
