package crew

import (
	"prelude/api"
	"prelude/batch"
	"prelude/lang"
)

// refusal is why batches are not run, nil if they are.
func refusal(l api.Layout, lib []api.Proc, batches [][]api.Tx) error {
	if _, e := lang.Check(lib); e != api.OK {
		return e
	}
	if e := misfit(l); e != api.OK {
		return e
	}
	writes := 0
	for i, b := range batches {
		if at, e := batch.Check(lib, b); e != api.OK {
			return &api.TxError{Index: i, Err: &api.TxError{Index: at, Err: e}}
		}
		writes += batch.Weight(b)
	}
	if writes > api.MaxCapacity {
		return api.ErrRoom
	}
	return nil
}

// misfit is what is wrong with a layout.
func misfit(l api.Layout) api.Errno {
	switch {
	case !within(l.Workers, api.MaxWorkers):
		return api.ErrWorkers
	case !within(l.Hands, api.MaxHands):
		return api.ErrHands
	case !within(l.Parts, api.MaxParts):
		return api.ErrParts
	case !within(l.Ahead, api.MaxAhead):
		return api.ErrAhead
	}
	return api.OK
}

// within tells whether a number of a layout is from 1 to the most that it may be.
func within(n, most int) bool { return 1 <= n && n <= most }
