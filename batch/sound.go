package batch

import (
	"prelude/api"
	"prelude/keys"
)

// each looks a batch's number of transactions over and then one by one: the first one with which something is wrong, and what.
func each(b []api.Tx, look func(api.Tx) api.Errno) (int, api.Errno) {
	if len(b) > api.MaxTxs {
		return 0, api.ErrTxs
	}
	for i, tx := range b {
		if e := look(tx); e != api.OK {
			return i, e
		}
	}
	return 0, api.OK
}

// sound looks a transaction over for a list of procedures.
func sound(lib []api.Proc, tx api.Tx) api.Errno {
	if tx.Proc < 0 || tx.Proc >= len(lib) {
		return api.ErrProc
	}
	p := lib[tx.Proc].Program
	switch {
	case len(tx.Args) != p.Args:
		return api.ErrArgs
	case len(tx.Reads) != p.Reads:
		return api.ErrReads
	case len(tx.Writes) != p.Writes:
		return api.ErrWrites
	}
	// The list may be no library: then the numbers that its programs say may be above their limits.
	return wellFormed(tx)
}

// wellFormed looks a transaction over for what holds whatever the library is.
func wellFormed(tx api.Tx) api.Errno {
	switch {
	case tx.Proc < 0 || tx.Proc >= api.MaxProcs:
		return api.ErrProc
	case len(tx.Args) > api.MaxArgs:
		return api.ErrArgs
	case len(tx.Reads) > api.MaxReads:
		return api.ErrReads
	case len(tx.Writes) > api.MaxWrites:
		return api.ErrWrites
	case !keys.Rises(tx.Reads) || !keys.Rises(tx.Writes):
		return api.ErrSet
	}
	return api.OK
}
