package serial

import (
	"testing"

	"prelude/api"
)

// What is kept is no more than what is told needs: a turn for each batch that has left something else at a key, and no key that never had a value behind one.
func TestTurns(t *testing.T) {
	h := make(history)
	k := api.Key{Row: 1}
	value := func(v int64) api.Cell { return api.Cell{Is: true, Value: v} }
	for _, c := range []struct {
		batch int
		cell  api.Cell
		turns int
	}{
		{1, api.Cell{}, 0},
		{2, value(5), 1},
		{2, api.Cell{}, 0},
		{3, value(5), 1},
		{3, value(6), 1},
		{4, value(6), 1},
		{5, value(7), 2},
		{5, value(6), 1},
		{6, api.Cell{}, 2},
		{7, api.Cell{}, 2},
		{8, value(0), 3},
		{8, api.Cell{}, 2},
	} {
		h.stand(c.batch, k, c.cell)
		if _, is := h[k]; len(h[k]) != c.turns || is != (c.turns > 0) || h.at(c.batch, k) != c.cell {
			t.Errorf("behind batch %d: %v, not %d turns", c.batch, h[k], c.turns)
		}
	}
}
