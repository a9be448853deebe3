package cc_test

import (
	"math"
	"slices"
	"testing"

	"prelude/api"
	"prelude/cc"
	"prelude/store"
)

// 11.1: the numbers that there may be, and no others; the first error that applies.
func TestNew(t *testing.T) {
	st := kept(t, 1, 1)
	wrong := []int{math.MinInt, -1 << 32, -1}
	for _, workers := range append(wrong, 0, api.MaxWorkers+1, 1<<32+1, math.MaxInt) {
		for _, ahead := range append(wrong, 1) {
			for _, latest := range append(wrong, 1) {
				if b, e := cc.New(st, workers, ahead, latest); b != nil || e != api.ErrWorkers {
					t.Errorf("New(%d, %d, %d): %v, %d", workers, ahead, latest, b, e)
				}
			}
		}
	}
	for _, ahead := range append(wrong, 0, api.MaxAhead+1, 1<<32+1, math.MaxInt) {
		for _, latest := range append(wrong, 1) {
			if b, e := cc.New(st, 1, ahead, latest); b != nil || e != api.ErrAhead {
				t.Errorf("New(1, %d, %d): %v, %d", ahead, latest, b, e)
			}
		}
	}
	for _, latest := range append(wrong, api.MaxNumber+1, math.MaxInt) {
		if b, e := cc.New(st, 1, 1, latest); b != nil || e != api.ErrBatch {
			t.Errorf("New(1, 1, %d): %v, %d", latest, b, e)
		}
	}
	for _, workers := range []int{1, 2, api.MaxWorkers} {
		for _, ahead := range []int{1, 2, api.MaxAhead} {
			for _, latest := range []int{0, 1, api.MaxNumber} {
				begins(t, over(t, st, workers, ahead, latest), st, workers, latest)
			}
		}
	}
}

// begins looks at a board without batches.
func begins(t *testing.T, b *cc.Board, st *store.Store, workers, latest int) {
	t.Helper()
	numbers(t, b, latest, latest, latest)
	none(t, b)
	for _, n := range []int{-1, 0, 1, latest - 1, latest, latest + 1} {
		if size, e := b.Size(n); size != 0 || e != api.ErrBatch {
			t.Errorf("Size(%d): %d, %d", n, size, e)
		}
		if b.Held(n) {
			t.Errorf("%d is held", n)
		}
		away(t, b, st, p(n, 0), api.ErrBatch)
	}
	for w := range workers {
		waits(t, b, st, w)
	}
	b.Forget(latest + 1)
	if b.Free() {
		t.Error("a hold stands there")
	}
	numbers(t, b, latest, latest, latest)
}

// 11.1: as many workers as were asked for, each of which has to say that it is done.
func TestWorkers(t *testing.T) {
	for _, workers := range []int{1, 2, 7, api.MaxWorkers} {
		b, st := made(t, 3, 8, workers, 1)
		posts(t, b, 1)
		for _, w := range []int{math.MinInt, -1, workers, workers + 1, math.MaxInt} {
			waits(t, b, st, w)
		}
		for w := range workers {
			numbers(t, b, 1, 0, 0)
			steps(t, b, w, 1)
			waits(t, b, st, w)
		}
		numbers(t, b, 1, 1, 1)
	}
}

// wrongTxs is transactions that are not well-formed.
func wrongTxs() []api.Tx {
	return []api.Tx{
		{Proc: -1}, {Proc: api.MaxProcs}, {Proc: math.MinInt}, {Proc: math.MaxInt},
		{Args: make([]int64, api.MaxArgs+1)},
		tx(run(0, api.MaxReads+1), nil), tx(nil, run(0, api.MaxWrites+1)),
		put(2, 1), put(1, 1), tx(set(2, 1), nil), tx(set(1, 1), nil),
		put(math.MaxInt64, math.MinInt64),
		tx(nil, []api.Key{{Table: -1}}), tx([]api.Key{{Table: -1}}, nil),
		tx(nil, []api.Key{{Table: api.MaxTable + 1}}), tx([]api.Key{at(1), {Table: api.MaxTable + 1}}, nil),
		tx(nil, []api.Key{{Table: 1}, {Row: 1}}),
	}
}

// 11.2: what is not well-formed is not posted, and nothing is done.
func TestPostRefuses(t *testing.T) {
	b, st := made(t, 1, 8, 1, 2)
	posts(t, b, 1, put(1))
	steps(t, b, 0, 1)
	was := told(b, st)
	refused := [][]api.Tx{make([]api.Tx, api.MaxTxs+1), slices.Repeat(txs(put(1)), 1000)}
	for _, x := range wrongTxs() {
		refused = append(refused, txs(x), txs(put(1), x), append(make([]api.Tx, api.MaxTxs-1), x), txs(x, put(1)))
	}
	for _, list := range refused {
		if n := b.Post(list); n != 0 {
			t.Errorf("Post(%v): %d", list, n)
		}
		if is := told(b, st); is != was {
			t.Fatalf("Post(%v) has left %s, not %s", list, is, was)
		}
	}
	posts(t, b, 2, put(1))
	steps(t, b, 0, 3)
	numbers(t, b, 2, 2, 0)
}

// 11.2: the greatest batch that there may be is posted, and the least one; which procedures there are is nobody's business here.
func TestPostLimits(t *testing.T) {
	b, _ := made(t, 4, api.MaxCapacity, 3, 2)
	edges := []api.Key{{Row: math.MinInt64}, {Row: math.MaxInt64}, {Table: 1}, {Table: api.MaxTable, Row: math.MaxInt64}}
	x := api.Tx{Proc: api.MaxProcs - 1, Args: slices.Repeat([]int64{math.MinInt64}, api.MaxArgs), Reads: run(-8, api.MaxReads), Writes: run(0, api.MaxWrites)}
	posts(t, b, 1, slices.Repeat(txs(x), api.MaxTxs)...)
	posts(t, b, 2)
	posts(t, b, 3, tx(edges, edges))
	if n := lays(b, 3); n != api.MaxTxs*(api.MaxReads+api.MaxWrites)+3+3 {
		t.Errorf("%d steps", n)
	}
	numbers(t, b, 3, 2, 0)
	for i := range api.MaxTxs {
		note, e := b.Note(p(1, i))
		if e != api.OK || note.Tx.Proc != x.Proc || !slices.Equal(note.Tx.Args, x.Args) || !slices.Equal(note.Tx.Reads, x.Reads) || !slices.Equal(note.Tx.Writes, x.Writes) {
			t.Errorf("Note(%v): %v, %d", p(1, i), note, e)
		}
		does(t, b, p(1, i))
	}
	numbers(t, b, 3, 2, 2)
	if n := lays(b, 3); n != 2*len(edges)+3 {
		t.Errorf("%d steps", n)
	}
	numbers(t, b, 3, 3, 2)
}

// 11.2: the last number that there is.
func TestLastNumber(t *testing.T) {
	st := kept(t, 1, 8)
	b := over(t, st, 1, api.MaxAhead, api.MaxNumber-2)
	posts(t, b, api.MaxNumber-1, put(1))
	b.Hold()
	posts(t, b, api.MaxNumber, both(1))
	was := told(b, st)
	if b.Post(nil) != 0 || b.Post(txs(put(1))) != 0 || b.Post(txs(put(2, 1))) != 0 || told(b, st) != was {
		t.Error("there is a batch behind the last one")
	}
	steps(t, b, 0, 2)
	waits(t, b, st, 0)
	b.Free()
	steps(t, b, 0, 3)
	waits(t, b, st, 0)
	notes(t, b, p(api.MaxNumber, 0), api.TxPosted, nums(1), nums(1), nums(2))
	does(t, b, p(api.MaxNumber-1, 0), p(api.MaxNumber, 0))
	numbers(t, b, api.MaxNumber, api.MaxNumber, api.MaxNumber)
	b.Forget(math.MaxInt)
	waits(t, b, st, 0)
	if b.Post(nil) != 0 {
		t.Error("there is a batch behind the last one")
	}
}

// 11.2: a batch is complete when the ones ahead of it are, it is laid and all of it is done; Complete goes on over all that are.
func TestComplete(t *testing.T) {
	b, _ := made(t, 1, 8, 1, 4)
	posts(t, b, 1, put(1), put(2))
	posts(t, b, 2)
	posts(t, b, 3, put(1))
	posts(t, b, 4)
	posts(t, b, 5, put(1))
	steps(t, b, 0, 3+1+2+1)
	numbers(t, b, 5, 4, 0)
	does(t, b, p(3, 0))
	numbers(t, b, 5, 4, 0)
	does(t, b, p(1, 1))
	numbers(t, b, 5, 4, 0)
	claims(t, b, 0, p(1, 0))
	numbers(t, b, 5, 4, 0)
	finishes(t, b, p(1, 0), api.Outcome{}, api.OK)
	numbers(t, b, 5, 4, 4)
	steps(t, b, 0, 2)
	numbers(t, b, 5, 5, 4)
	posts(t, b, 6)
	steps(t, b, 0, 1)
	numbers(t, b, 6, 6, 4)
	does(t, b, p(5, 0))
	numbers(t, b, 6, 6, 6)
	posts(t, b, 7)
	numbers(t, b, 7, 6, 6)
	steps(t, b, 0, 1)
	numbers(t, b, 7, 7, 7)
}

// sizes looks which batches are known, from batch 1 on, and how many transactions each has (-1: it is not known).
func sizes(t *testing.T, b *cc.Board, want ...int) {
	t.Helper()
	for i, size := range want {
		got, e := b.Size(i + 1)
		if size < 0 && (got != 0 || e != api.ErrBatch) || size >= 0 && (got != size || e != api.OK) {
			t.Errorf("Size(%d): %d, %d, not %d", i+1, got, e, size)
		}
	}
}

// 11.3: which batches are known; complete ones alone are forgotten, and nothing else changes.
func TestForget(t *testing.T) {
	b, st := made(t, 1, 20, 1, 16)
	for n := 1; n <= 5; n++ {
		posts(t, b, n, slices.Repeat(txs(put(1)), n-1)...)
	}
	b.Forget(math.MaxInt)
	sizes(t, b, 0, 1, 2, 3, 4, -1)
	steps(t, b, 0, 1+2+3+4+2)
	numbers(t, b, 5, 4, 1)
	does(t, b, p(2, 0), p(3, 0), p(3, 1), p(4, 0), p(4, 2))
	numbers(t, b, 5, 4, 3)
	was := told(b, st)
	for _, n := range []int{math.MinInt, -1, 0} {
		b.Forget(n)
		if is := told(b, st); is != was {
			t.Errorf("Forget(%d) has left %s, not %s", n, is, was)
		}
	}
	b.Forget(1)
	sizes(t, b, -1, 1, 2, 3, 4, -1)
	outcomeIs(t, b, p(2, 0), api.Outcome{}, api.OK)
	b.Forget(4)
	sizes(t, b, -1, -1, -1, 3, 4, -1)
	away(t, b, st, p(3, 0), api.ErrBatch)
	away(t, b, st, p(3, 2), api.ErrBatch)
	numbers(t, b, 5, 4, 3)
	next(t, b, p(4, 1))
	b.Forget(2)
	b.Forget(math.MaxInt)
	sizes(t, b, -1, -1, -1, 3, 4, -1)
	steps(t, b, 0, 3)
	does(t, b, p(5, 0), p(5, 1), p(5, 2), p(5, 3), p(4, 1))
	numbers(t, b, 5, 5, 5)
	sizes(t, b, -1, -1, -1, 3, 4, -1)
	b.Forget(5)
	sizes(t, b, -1, -1, -1, -1, -1, -1)
	numbers(t, b, 5, 5, 5)
	none(t, b)
	posts(t, b, 6, put(1))
	sizes(t, b, -1, -1, -1, -1, -1, 1)
	steps(t, b, 0, 2)
	notes(t, b, p(6, 0), api.TxPosted, nil, nums(10), nums(11))
}

// heldFrom looks from which batch on all are held (0: none is).
func heldFrom(t *testing.T, b *cc.Board, from int) {
	t.Helper()
	for _, n := range []int{math.MinInt, -1, 0, 1, 2, 3, 4, 5, 6, api.MaxNumber, math.MaxInt} {
		if got := b.Held(n); got != (from > 0 && n >= from) {
			t.Errorf("Held(%d): %v, and they are held from %d on", n, got, from)
		}
	}
}

// 11.4: a hold stands at the batch that is the latest one then; the oldest one is freed first.
func TestHolds(t *testing.T) {
	b, _ := made(t, 1, 20, 1, 16)
	heldFrom(t, b, 0)
	b.Hold()
	heldFrom(t, b, 1)
	posts(t, b, 1)
	heldFrom(t, b, 1)
	b.Hold()
	b.Hold()
	posts(t, b, 2)
	posts(t, b, 3)
	b.Hold()
	for _, from := range []int{1, 2, 2, 4, 0} {
		heldFrom(t, b, from)
		if b.Free() != (from > 0) {
			t.Errorf("Free: %v, while they are held from %d on", from == 0, from)
		}
	}
	b.Hold()
	heldFrom(t, b, 4)
	if !b.Free() || b.Free() {
		t.Error("Free")
	}
	heldFrom(t, b, 0)
}

// 11.4, 11.5: a hold stops no batch that was posted ahead of it, however far it is; and every one behind it.
func TestHoldsStop(t *testing.T) {
	b, st := made(t, 1, 20, 1, 16)
	b.Hold()
	posts(t, b, 1, both(1))
	waits(t, b, st, 0)
	if !b.Free() {
		t.Error("Free: false")
	}
	steps(t, b, 0, 1)
	b.Hold()
	posts(t, b, 2, put(1))
	b.Hold()
	posts(t, b, 3, put(1))
	steps(t, b, 0, 2)
	waits(t, b, st, 0)
	numbers(t, b, 3, 1, 0)
	does(t, b, p(1, 0))
	waits(t, b, st, 0)
	b.Free()
	steps(t, b, 0, 2)
	waits(t, b, st, 0)
	b.Free()
	steps(t, b, 0, 2)
	waits(t, b, st, 0)
	numbers(t, b, 3, 3, 1)
	if b.Free() {
		t.Error("Free: true")
	}
}

// 11.4: as many holds as one likes.
func TestManyHolds(t *testing.T) {
	b, _ := made(t, 1, 1, 1, 1)
	freed := 0
	for n := 1; n <= 3000; n++ {
		b.Hold()
		b.Post(nil)
		if n%3 == 0 {
			freed++
			if !b.Free() || b.Held(freed) || !b.Held(freed+1) {
				t.Fatalf("behind %d Frees", freed)
			}
		}
	}
	for ; freed < 3000; freed++ {
		if !b.Held(freed+1) || b.Held(freed) || !b.Free() {
			t.Fatalf("behind %d Frees", freed)
		}
	}
	if b.Free() || b.Held(math.MaxInt) {
		t.Error("there is one more hold")
	}
}
