package engine

import (
	"slices"

	"prelude/api"
	"prelude/book"
	"prelude/cc"
	"prelude/exec"
	"prelude/lang"
	"prelude/store"
	"prelude/sweep"
)

// check tells why there is no database of a layout, a library and a capacity, whatever its snapshot is.
func check(l api.Layout, lib []api.Proc, capacity int) api.Errno {
	if _, f := lang.Check(lib); f != api.OK {
		return f
	}
	switch {
	case outside(capacity, api.MaxCapacity):
		return api.ErrCapacity
	case outside(l.Workers, api.MaxWorkers):
		return api.ErrWorkers
	case outside(l.Hands, api.MaxHands):
		return api.ErrHands
	case outside(l.Parts, api.MaxParts):
		return api.ErrParts
	case outside(l.Ahead, api.MaxAhead):
		return api.ErrAhead
	}
	return api.OK
}

// outside tells whether a number is not from 1 to a greatest one.
func outside(n, most int) bool { return n < 1 || n > most }

// newParts is the parts of a database of which no step was taken, behind the batch that is the door's latest one. What they could refuse was asked ahead.
func newParts(l api.Layout, lib []api.Proc, door *book.Book, chains []api.Chain) *parts {
	st, _ := store.New(l.Parts, door.Capacity())
	fill(st, chains)
	board, _ := cc.New(st, l.Workers, l.Ahead, door.Latest())
	hands, _ := exec.New(board, st, lib, l.Hands)
	return &parts{door: door, store: st, board: board, hands: hands, jobs: sweep.New(board, st)}
}

// fill puts the versions of a snapshot into a store. The door has found them in order, and room for all.
func fill(st *store.Store, chains []api.Chain) {
	for _, c := range chains {
		for _, v := range c.Versions {
			number, _ := st.Insert(c.Key, v.Batch, v.Index)
			st.Fill(number, v.Cell)
		}
	}
}

// forms is a library without its code: what makes a batch sound is how many of everything its programs take, and the code the hands have.
func forms(lib []api.Proc) []api.Proc {
	own := slices.Clone(lib)
	for i := range own {
		own[i].Program.Code = nil
	}
	return own
}
