package scout

import (
	"errors"
	"slices"

	"prelude/api"
	"prelude/engine"
)

// running is wishes that are being done.
type running struct {
	db     *engine.Engine
	procs  int
	wishes []api.Wish
	fates  []api.Fate
	open   []int // the places of the open wishes, rising
}

// call is a wish, by its place, and the transaction that was foretold for it.
type call struct {
	wish int
	tx   api.Tx
}

// newRunning is wishes that are all open.
func newRunning(e *engine.Engine, procs int, wishes []api.Wish) *running {
	r := &running{db: e, procs: procs, wishes: wishes}
	for i := range wishes {
		r.fates = append(r.fates, api.Fate{State: api.FateLeft})
		r.open = append(r.open, i)
	}
	return r
}

// try makes one more try, with the first open wishes.
func (r *running) try() {
	n := r.db.View().Latest
	if f := r.db.Pin(n); f != api.OK {
		r.refuse(r.open, f)
		r.open = nil
		return
	}
	first := r.open[:min(len(r.open), api.MaxTxs)]
	batch, calls := r.post(r.foretell(n, first))
	r.db.Unpin(n)
	left := r.ask(batch, calls)
	// Those that stay open lie right ahead of the others then.
	closed := len(first) - copy(first[len(first)-len(left):], left)
	r.open = r.open[closed:]
}

// foretell is the calls of wishes, as they are foretold behind a pinned batch.
func (r *running) foretell(n int, places []int) []call {
	var calls []call
	for _, i := range places {
		r.fates[i].Tries++
		tx, f := Foretell(r.db, n, r.procs, r.wishes[i])
		if f != api.OK {
			r.refuse([]int{i}, f)
			continue
		}
		calls = append(calls, call{wish: i, tx: tx})
	}
	return calls
}

// post lets calls in as one batch, without those with which something is wrong: its number, and the calls in it.
func (r *running) post(calls []call) (int, []call) {
	for len(calls) > 0 {
		n, err := r.db.Post(txsOf(calls))
		if err == nil {
			return n, calls
		}
		at, size := 0, len(calls)
		var one *api.TxError
		if errors.As(err, &one) {
			at, size = one.Index, 1
		}
		r.refuse(wishesOf(calls[at:at+size]), errnoOf(err))
		calls = slices.Delete(calls, at, at+size)
	}
	return 0, nil
}

// ask asks what became of the calls of a batch: the wishes of those that were foretold wrongly stay open.
func (r *running) ask(n int, calls []call) []int {
	var left []int
	for i, c := range calls {
		o, _ := r.db.Outcome(n, i) // it was let in just now
		if isForetoldWrongly(o) {
			left = append(left, c.wish)
			continue
		}
		guards := len(c.tx.Reads) - len(r.wishes[c.wish].Reads)
		o.Read = o.Read[guards:]
		fate := &r.fates[c.wish]
		fate.State, fate.At, fate.Outcome = api.FateDone, api.Place{Batch: n, Index: i}, o
	}
	return left
}

// refuse refuses wishes with an error.
func (r *running) refuse(places []int, f api.Errno) {
	for _, i := range places {
		r.fates[i].State, r.fates[i].Err = api.FateRefused, f
	}
}

// isForetoldWrongly tells whether a guard has aborted a transaction.
func isForetoldWrongly(o api.Outcome) bool {
	return !o.Commit && o.Code == api.FaultAbort && o.User == api.Foretold
}

// txsOf is the transactions of calls.
func txsOf(calls []call) []api.Tx {
	var list []api.Tx
	for _, c := range calls {
		list = append(list, c.tx)
	}
	return list
}

// wishesOf is the places of the wishes of calls.
func wishesOf(calls []call) []int {
	var list []int
	for _, c := range calls {
		list = append(list, c.wish)
	}
	return list
}

// errnoOf is the number that an error is, or is around.
func errnoOf(err error) api.Errno {
	var f api.Errno
	errors.As(err, &f)
	return f
}
