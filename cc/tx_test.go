package cc_test

import (
	"math"
	"testing"

	"prelude/api"
)

// 11.6: a place is there when its batch is known and laid, and has a transaction of that number.
func TestNotThere(t *testing.T) {
	b, st := made(t, 1, 20, 1, 2)
	for _, at := range []api.Place{p(0, 0), p(1, 0), p(-1, -1), p(math.MinInt, 0), p(math.MaxInt, math.MaxInt)} {
		away(t, b, st, at, api.ErrBatch)
	}
	posts(t, b, 1, put(1), put(2))
	posts(t, b, 2)
	for range 3 {
		for _, at := range []api.Place{p(1, 0), p(1, 1), p(1, 2), p(1, -1), p(2, 0)} {
			away(t, b, st, at, api.ErrBatch)
		}
		none(t, b)
		steps(t, b, 0, 1)
	}
	for _, i := range []int{2, 3, 64, -1, math.MinInt, math.MaxInt} {
		away(t, b, st, p(1, i), api.ErrIndex)
	}
	away(t, b, st, p(2, 0), api.ErrBatch)
	away(t, b, st, p(0, 0), api.ErrBatch)
	steps(t, b, 0, 1)
	away(t, b, st, p(2, 0), api.ErrIndex)
	away(t, b, st, p(2, -1), api.ErrIndex)
	away(t, b, st, p(3, 0), api.ErrBatch)
	does(t, b, p(1, 0), p(1, 1))
	outcomeIs(t, b, p(1, 0), api.Outcome{}, api.OK)
	b.Forget(1)
	for _, i := range []int{0, 1, 2, -1} {
		away(t, b, st, p(1, i), api.ErrBatch)
	}
	away(t, b, st, p(2, 0), api.ErrIndex)
}

// 11.6: the batches up to the one behind which the board begins are complete, and nothing is known of them.
func TestNothingKnown(t *testing.T) {
	st := kept(t, 1, 20)
	st.Insert(at(1), 5, 0)
	b := over(t, st, 1, 2, 5)
	posts(t, b, 6, put(1))
	steps(t, b, 0, 2)
	for n := -1; n <= 5; n++ {
		away(t, b, st, p(n, 0), api.ErrBatch)
	}
	next(t, b, p(6, 0))
}

// 11.7: Next goes through the laid batches in the order of the log, whatever is claimed in which order.
func TestNext(t *testing.T) {
	b, _ := made(t, 1, 20, 1, 16)
	posts(t, b, 1, put(1), put(1), put(1))
	posts(t, b, 2)
	posts(t, b, 3, put(1), put(1))
	posts(t, b, 4, put(1))
	none(t, b)
	steps(t, b, 0, 3)
	none(t, b)
	steps(t, b, 0, 1)
	next(t, b, p(1, 0))
	claims(t, b, 1, p(1, 1))
	next(t, b, p(1, 0))
	claims(t, b, 2, p(1, 0))
	next(t, b, p(1, 2))
	finishes(t, b, p(1, 1), api.Outcome{}, api.OK)
	next(t, b, p(1, 2))
	claims(t, b, 1, p(1, 2))
	none(t, b)
	steps(t, b, 0, 1+3)
	next(t, b, p(3, 0))
	steps(t, b, 0, 2)
	next(t, b, p(3, 0))
	claims(t, b, 3, p(4, 0))
	next(t, b, p(3, 0))
	claims(t, b, 0, p(3, 0))
	next(t, b, p(3, 1))
	claims(t, b, 0, p(3, 1))
	none(t, b)
	for _, at := range []api.Place{p(3, 1), p(1, 0), p(4, 0), p(3, 0), p(1, 2)} {
		finishes(t, b, at, api.Outcome{}, api.OK)
		none(t, b)
	}
	numbers(t, b, 4, 4, 4)
	posts(t, b, 5, put(1))
	none(t, b)
	b.Forget(4)
	steps(t, b, 0, 2)
	next(t, b, p(5, 0))
}

// 11.7, 11.11: each transaction is claimed once, by any hand that is not below 0.
func TestClaim(t *testing.T) {
	b, _ := made(t, 1, 20, 1, 16)
	posts(t, b, 1, put(1), put(1), put(1), put(1))
	steps(t, b, 0, 5)
	all := nums(math.MinInt, -1, 0, 1, 63, 64, math.MaxInt)
	for i, hand := range []int{0, 1, 64, math.MaxInt} {
		held(t, b, p(1, i), -1)
		unclaimed(t, b, p(1, i), -1, math.MinInt, -2)
		notes(t, b, p(1, i), api.TxPosted, nil, nums(i), nums(i+1))
		claims(t, b, hand, p(1, i))
		notes(t, b, p(1, i), api.TxClaimed, nil, nums(i), nums(i+1))
		unclaimed(t, b, p(1, i), all...)
	}
	for i := range 4 {
		finishes(t, b, p(1, i), api.Outcome{}, api.OK)
		held(t, b, p(1, i), -1)
		unclaimed(t, b, p(1, i), all...)
		notes(t, b, p(1, i), api.TxDone, nil, nums(i), nums(i+1))
	}
	b.Forget(1)
	unclaimed(t, b, p(1, 0), all...)
}

// 11.7: one hand may have several transactions.
func TestOneHand(t *testing.T) {
	b, _ := made(t, 1, 20, 1, 16)
	posts(t, b, 1, put(1), put(1))
	steps(t, b, 0, 3)
	claims(t, b, 5, p(1, 1))
	claims(t, b, 5, p(1, 0))
	finishes(t, b, p(1, 0), api.Outcome{}, api.OK)
	held(t, b, p(1, 1), 5)
	held(t, b, p(1, 0), -1)
}

// cell is a cell with a value.
func cell(v int64) api.Cell { return api.Cell{Is: true, Value: v} }

// 11.8, 11.11: a transaction is finished once, when it is claimed; its outcome is told from then on.
func TestFinish(t *testing.T) {
	b, st := made(t, 1, 20, 1, 16)
	posts(t, b, 1, put(1), put(2))
	steps(t, b, 0, 3)
	o := api.Outcome{Commit: true, Out: []int64{3, math.MinInt64}, Read: []api.Cell{cell(5), {}, {Value: 9}, cell(0), {Value: math.MaxInt64}}}
	want := api.Outcome{Commit: true, Out: []int64{3, math.MinInt64}, Read: []api.Cell{cell(5), {}, {}, cell(0), {}}}
	was := told(b, st)
	finishes(t, b, p(1, 0), o, api.ErrClaim)
	outcomeIs(t, b, p(1, 0), api.Outcome{}, api.ErrClaim)
	if is := told(b, st); is != was {
		t.Errorf("a Finish has left %s, not %s", is, was)
	}
	claims(t, b, 3, p(1, 0))
	outcomeIs(t, b, p(1, 0), api.Outcome{}, api.ErrClaim)
	finishes(t, b, p(1, 0), o, api.OK)
	outcomeIs(t, b, p(1, 0), want, api.OK)
	was = told(b, st)
	finishes(t, b, p(1, 0), api.Outcome{User: 1}, api.ErrClaim)
	if is := told(b, st); is != was {
		t.Errorf("a Finish has left %s, not %s", is, was)
	}
	outcomeIs(t, b, p(1, 1), api.Outcome{}, api.ErrClaim)
	claims(t, b, 0, p(1, 1))
	failed := api.Outcome{Code: api.FaultAbort, User: math.MinInt64}
	finishes(t, b, p(1, 1), failed, api.OK)
	outcomeIs(t, b, p(1, 1), failed, api.OK)
	outcomeIs(t, b, p(1, 0), want, api.OK)
	if st.Live() != 2 {
		t.Errorf("%d versions", st.Live())
	}
	for v := 1; v <= 2; v++ {
		if got, e := st.Look(v); got.Filled || e != api.OK {
			t.Errorf("version %d: %v, %d", v, got, e)
		}
	}
}

// 11.8: whatever is handed in as an outcome is told, it is nobody's business here.
func TestAnyOutcome(t *testing.T) {
	b, _ := made(t, 1, 20, 1, 16)
	posts(t, b, 1, put(1))
	steps(t, b, 0, 2)
	claims(t, b, 0, p(1, 0))
	o := api.Outcome{Commit: true, Code: -5, User: math.MaxInt64, Out: make([]int64, 1000), Read: make([]api.Cell, 1000)}
	o.Out[999], o.Read[999] = 7, cell(8)
	finishes(t, b, p(1, 0), o, api.OK)
	outcomeIs(t, b, p(1, 0), o, api.OK)
}

// 11.8: a note has the transaction as it was posted, and a number for each of its keys.
func TestNote(t *testing.T) {
	b, _ := made(t, 1, 20, 1, 16)
	x := api.Tx{Proc: 63, Args: []int64{math.MinInt64, 0, 7}, Reads: set(-5, 1, 9), Writes: set(1, 2)}
	posts(t, b, 1, put(1), x, api.Tx{Proc: 5, Args: []int64{4}})
	steps(t, b, 0, 1+5+1)
	for _, state := range []int{api.TxPosted, api.TxClaimed, api.TxDone} {
		note, e := b.Note(p(1, 1))
		if e != api.OK || !sameTx(note.Tx, x) {
			t.Errorf("Note: %v, %d", note, e)
		}
		notes(t, b, p(1, 1), state, nums(0, 1, 0), nums(1, 0), nums(2, 3))
		note, e = b.Note(p(1, 2))
		if e != api.OK || !sameTx(note.Tx, api.Tx{Proc: 5, Args: []int64{4}}) || len(note.Reads)+len(note.Before)+len(note.Own) > 0 {
			t.Errorf("Note: %v, %d", note, e)
		}
		if state == api.TxPosted {
			claims(t, b, 1, p(1, 1))
		} else if state == api.TxClaimed {
			finishes(t, b, p(1, 1), api.Outcome{}, api.OK)
		}
	}
}
