package store

import "prelude/api"

// version is what is kept of a version. It embeds its place in the log: Batch and Index are its own fields.
type version struct {
	api.Place
	number int
	key    api.Key
	filled bool
	cell   api.Cell // nothing, as long as it is not filled
}

// told is a version as it is handed out.
func (v *version) told() api.Version {
	return api.Version{Batch: v.Batch, Index: v.Index, Filled: v.filled, Cell: v.cell}
}

// fill gives a version its cell.
func (v *version) fill(c api.Cell) {
	v.filled = true
	if c.Is {
		v.cell = c
	}
}

// later tells whether a version stands at a later place than another one.
func (v *version) later(than *version) bool {
	return v.Batch > than.Batch || v.Batch == than.Batch && v.Index > than.Index
}
