package crew

import (
	"slices"

	"prelude/api"
	"prelude/keys"
)

// outcomes is what the transactions of each batch have done.
func (c *crew) outcomes() [][]api.Outcome {
	list := make([][]api.Outcome, len(c.sheets))
	for i, s := range c.sheets {
		list[i] = make([]api.Outcome, len(s.tasks))
		for j, t := range s.tasks {
			list[i][j] = t.outcome()
		}
	}
	return list
}

// rows is all values behind the last batch, in the order of keys.
func (c *crew) rows() []api.Row {
	var list []api.Row
	for _, s := range c.shelves {
		list = append(list, s.rows()...)
	}
	slices.SortFunc(list, func(a, b api.Row) int { return keys.Compare(a.Key, b.Key) })
	return list
}
