package engine

import (
	"slices"

	"prelude/api"
	"prelude/keys"
)

// pinned is the numbers of the pinned batches, rising.
func (e *Engine) pinned() []int {
	var list []int
	for _, p := range e.door.Pins() {
		list = append(list, p.Batch)
	}
	return list
}

// checkRead tells why nothing can be read behind a batch at some keys.
func (e *Engine) checkRead(n int, list ...api.Key) api.Errno {
	if !slices.Contains(e.pinned(), n) {
		return api.ErrPin
	}
	for _, k := range list {
		if f := keys.Check(k); f != api.OK {
			return f
		}
	}
	return api.OK
}

// settle takes steps until a batch is complete. As long as it is not, a task is ready.
func (e *Engine) settle(n int) {
	for e.board.Complete() < n && e.line.Drain(1) > 0 {
	}
}

// at is what stands at a key behind a batch that is complete, and pinned or the latest one: nothing, where no version is visible.
func (e *Engine) at(n int, k api.Key) api.Cell {
	version, _ := e.store.Look(e.store.Visible(k, n))
	return version.Cell
}

// rows is all values from one key to another behind such a batch, in the order of keys. The door knows each key that has versions.
func (e *Engine) rows(n int, from, to api.Key) []api.Row {
	var list []api.Row
	for _, k := range e.door.Keys() {
		if keys.Compare(k, from) < 0 || keys.Compare(k, to) > 0 {
			continue
		}
		if c := e.at(n, k); c.Is {
			list = append(list, api.Row{Key: k, Value: c.Value})
		}
	}
	return list
}

// chains is all versions at rest, by their keys, the oldest first.
func (e *Engine) chains() []api.Chain {
	var list []api.Chain
	for _, k := range e.door.Keys() {
		c := api.Chain{Key: k}
		for _, v := range slices.Backward(e.store.Chain(k)) {
			c.Versions = append(c.Versions, api.Stamp{Batch: v.Batch, Index: v.Index, Cell: v.Cell})
		}
		list = append(list, c)
	}
	return list
}
