package engine_test

import (
	"math"
	"testing"

	"prelude/api"
	"prelude/batch"
	"prelude/engine"
)

// submits lets a batch in by its bytes.
func submits(t *testing.T, e *engine.Engine, n int, b ...api.Tx) {
	t.Helper()
	data, f := batch.Encode(b)
	if f != api.OK {
		t.Fatal(f)
	}
	if got, err := e.Submit(data); got != n || err != nil {
		t.Fatalf("Submit of %v: %d, %v, not %d", b, got, err, n)
	}
}

// wrong is batches that are not sound, with the transaction and the error.
func wrong() []struct {
	b    []api.Tx
	at   int
	code api.Errno
} {
	good := put(1, 1)
	return []struct {
		b    []api.Tx
		at   int
		code api.Errno
	}{
		{[]api.Tx{{Proc: -1}}, 0, api.ErrProc},
		{[]api.Tx{good, {Proc: len(bank())}}, 1, api.ErrProc},
		{[]api.Tx{good, good, {Proc: procPut, Writes: rows(1)}}, 2, api.ErrArgs},
		{[]api.Tx{{Proc: procPut, Args: []int64{1, 2}, Writes: rows(1)}, {Proc: -1}}, 0, api.ErrArgs},
		{[]api.Tx{good, {Proc: procPut, Args: []int64{1}, Reads: rows(1), Writes: rows(1)}}, 1, api.ErrReads},
		{[]api.Tx{good, {Proc: procPut, Args: []int64{1}}}, 1, api.ErrWrites},
		{[]api.Tx{good, move(1, 2, 1)}, 1, api.ErrSet},
		{[]api.Tx{move(1, 1, 1)}, 0, api.ErrSet},
		{[]api.Tx{{Proc: procPut, Args: []int64{1}, Writes: []api.Key{{Table: -1}}}}, 0, api.ErrSet},
		{[]api.Tx{{Proc: procPut, Args: []int64{1}, Writes: []api.Key{{Table: api.MaxTable + 1}}}}, 0, api.ErrSet},
		{make([]api.Tx, api.MaxTxs+1), 0, api.ErrTxs},
	}
}

// 15.2: a batch that is let in is on the board under its number, and counts at the door.
func TestPost(t *testing.T) {
	for _, lets := range []func(*testing.T, *engine.Engine, int, ...api.Tx){posts, submits} {
		e := open(t, one(), 100)
		lets(t, e, 1, put(10, 1), put(5, 2))
		views(t, e, api.View{Latest: 1, Charge: 2})
		ready(t, e, 0)
		lets(t, e, 2)
		lets(t, e, 3, rest(), show(1, 2))
		lets(t, e, 4, move(4, 1, 2), keep(1, 3), drop(3))
		views(t, e, api.View{Latest: 4, Charge: 7})
		number(t, "Drain", e.Drain(), 13+1+17+34)
		for n, want := range []int{1: 2, 2: 0, 3: 2, 4: 3} {
			for i := range want {
				if o, f := e.Outcome(n, i); !o.Commit || f != api.OK {
					t.Errorf("Outcome(%d, %d): %v, %d", n, i, o, f)
				}
			}
			if n > 0 {
				noOutcome(t, e, n, want, api.ErrIndex)
			}
		}
		last(t, e, row(2), value(9))
	}
}

// 15.2: what is not sound is refused, with its place and its error, and changes nothing.
func TestPostNotSound(t *testing.T) {
	for _, c := range wrong() {
		e := first(t, one(), 8)
		e.Step(0)
		unchanged(t, e, "a Post that is refused", func() {
			n, err := e.Post(c.b)
			txError(t, n, err, c.at, c.code)
		})
		if data, f := batch.Encode(c.b); f == api.OK {
			unchanged(t, e, "a Submit that is refused", func() {
				n, err := e.Submit(data)
				txError(t, n, err, c.at, c.code)
			})
		}
		posts(t, e, 3, put(1, 3))
	}
}

// 15.2: bytes that are no batch are refused at their byte; ahead of what is not sound, and of what has no room.
func TestSubmitNoBatch(t *testing.T) {
	e := first(t, one(), 6)
	good, _ := batch.Encode([]api.Tx{put(1, 1)})
	odd, _ := batch.Encode([]api.Tx{{Proc: 63}})
	unchanged(t, e, "a Submit that is refused", func() {
		byteError(t, e, nil, 0, api.ErrShort)
		byteError(t, e, []byte{65}, 0, api.ErrBig)
		byteError(t, e, []byte{0, 0}, 1, api.ErrForm)
		byteError(t, e, append(good, 0), len(good), api.ErrForm)
		byteError(t, e, append(odd, 7), len(odd), api.ErrForm)
		byteError(t, e, good[:len(good)-1], 6, api.ErrShort)
	})
}

// 15.2: room is asked behind whether it is sound, and the last number ahead of room.
func TestRefusedOrder(t *testing.T) {
	full := api.Snapshot{Latest: api.MaxNumber, Chains: []api.Chain{{Key: row(1), Versions: []api.Stamp{{Batch: 7, Cell: value(3)}}}}}
	e := restored(t, one(), 1, full)
	unchanged(t, e, "what is refused", func() {
		for _, b := range [][]api.Tx{nil, {put(1, 1)}, {rest()}} {
			n, err := e.Post(b)
			refused(t, n, err, api.ErrLast)
			data, _ := batch.Encode(b)
			n, err = e.Submit(data)
			refused(t, n, err, api.ErrLast)
		}
		for _, c := range wrong() {
			n, err := e.Post(c.b)
			txError(t, n, err, c.at, c.code)
		}
	})
	full.Latest--
	e = restored(t, one(), 1, full)
	n, err := e.Post([]api.Tx{put(1, 1), put(1, 1), {Proc: -1}})
	txError(t, n, err, 2, api.ErrProc)
	n, err = e.Post([]api.Tx{put(1, 1)})
	refused(t, n, err, api.ErrRoom)
	posts(t, e, api.MaxNumber, rest(), show(1, 2))
	outcome(t, e, api.MaxNumber, 1, api.Outcome{Commit: true, Out: []int64{1, 3, 0, 0}, Read: []api.Cell{value(3), {}}})
	n, err = e.Post(nil)
	refused(t, n, err, api.ErrLast)
	fails(t, "Pin", e.Pin(api.MaxNumber), api.OK)
	reads(t, e, api.MaxNumber, row(1), value(3))
}

// 15.2: room hangs on the charge alone, not on how much is laid or done.
func TestRoom(t *testing.T) {
	for steps := range 60 {
		e := first(t, one(), 8)
		for range steps {
			e.Step(0)
		}
		n, err := e.Post([]api.Tx{put(1, 1), put(1, 1), put(1, 1)})
		refused(t, n, err, api.ErrRoom)
		posts(t, e, 3, keep(1, 2))
		n, err = e.Post([]api.Tx{put(1, 1)})
		refused(t, n, err, api.ErrRoom)
		posts(t, e, 4)
		number(t, "Collect", e.Collect(), 6)
		posts(t, e, 5, put(1, 1), put(1, 1), put(1, 1), put(1, 1), put(1, 1), put(1, 4))
		n, err = e.Post([]api.Tx{put(1, 1)})
		refused(t, n, err, api.ErrRoom)
		last(t, e, row(2), value(9))
		number(t, "Charge", e.View().Charge, 8)
	}
}

// 15.3: pins are the book's.
func TestPins(t *testing.T) {
	e := first(t, one(), 8)
	for _, n := range []int{-1, 3, math.MinInt, math.MaxInt} {
		unchanged(t, e, "a Pin that is refused", func() {
			fails(t, "Pin", e.Pin(n), api.ErrBatch)
			fails(t, "Unpin", e.Unpin(n), api.ErrPin)
		})
	}
	for _, n := range []int{1, 0, 1, 2} {
		fails(t, "Pin", e.Pin(n), api.OK)
	}
	views(t, e, api.View{Latest: 2, Charge: 6, Pins: []api.Pin{{Batch: 0, Count: 1}, {Batch: 1, Count: 2}, {Batch: 2, Count: 1}}})
	fails(t, "Unpin", e.Unpin(1), api.OK)
	fails(t, "Unpin", e.Unpin(0), api.OK)
	fails(t, "Unpin", e.Unpin(0), api.ErrPin)
	views(t, e, api.View{Latest: 2, Charge: 6, Pins: []api.Pin{{Batch: 1, Count: 1}, {Batch: 2, Count: 1}}})
	number(t, "Collect", e.Collect(), 2)
	fails(t, "Pin", e.Pin(0), api.ErrFloor)
	fails(t, "Pin", e.Pin(1), api.OK)
	ready(t, e, 0)
	number(t, "Steps", e.View().Steps, 0)
}

// 15.3: one batch too many that is pinned.
func TestManyPins(t *testing.T) {
	e := open(t, one(), 8)
	for n := 1; n <= api.MaxPins; n++ {
		posts(t, e, n)
		fails(t, "Pin", e.Pin(n), api.OK)
	}
	fails(t, "Pin", e.Pin(0), api.ErrPins)
	fails(t, "Pin", e.Pin(1), api.OK)
	reads(t, e, 17, row(1), api.Cell{})
	number(t, "Complete", e.View().Complete, 17)
}

// 15.3: a collect tells at once what it lets go, and the sweeper takes it out later, when the batches up to the floor are complete; the pins count as they were at the collect.
func TestCollect(t *testing.T) {
	e := first(t, one(), 8)
	fails(t, "Pin", e.Pin(1), api.OK)
	number(t, "Collect", e.Collect(), 2)
	views(t, e, api.View{Latest: 2, Floor: 2, Charge: 4, Pins: []api.Pin{{Batch: 1, Count: 1}}})
	fails(t, "Unpin", e.Unpin(1), api.OK)
	posts(t, e, 3, put(1, 1))
	number(t, "Drain", e.Drain(), 52+3+6+1)
	if v := e.Versions(row(1)); len(v) != 3 || v[0].Batch != 3 || v[1].Batch != 2 || v[1].Index != 1 || v[2].Batch != 1 {
		t.Errorf("Versions: %v", v)
	}
	views(t, e, api.View{Latest: 3, Complete: 3, Floor: 2, Charge: 5, Live: 5, Steps: 62})
	number(t, "Collect", e.Collect(), 3)
	number(t, "Collect", e.Collect(), 0)
	number(t, "Drain", e.Drain(), 5)
	views(t, e, api.View{Latest: 3, Complete: 3, Floor: 3, Charge: 2, Live: 2, Steps: 67})
}

// 15.3: what is let in behind a collect is laid behind it.
func TestCollectHolds(t *testing.T) {
	e := first(t, api.Layout{Workers: 1, Hands: 1, Parts: 1, Ahead: 16}, 8)
	number(t, "Collect", e.Collect(), 4)
	posts(t, e, 3, put(1, 1), put(1, 1), put(1, 1), put(1, 1), put(1, 1), put(1, 1))
	for e.View().Complete < 2 {
		e.Step(0)
	}
	ready(t, e, 2)
	number(t, "Live", e.View().Live, 6)
	for range 5 {
		number(t, "Step", e.Step(0), 2)
	}
	ready(t, e, 0)
	number(t, "Live", e.View().Live, 2)
	e.Drain()
	number(t, "Live", e.View().Live, 8)
}

// 15.3: no outcome up to the floor is told, whether its batch is complete or not.
func TestGone(t *testing.T) {
	for steps := range 60 {
		e := first(t, one(), 8)
		for range steps {
			e.Step(0)
		}
		e.Collect()
		posts(t, e, 3, put(1, 1))
		taken := e.View().Steps
		for n := 1; n <= 2; n++ {
			for _, i := range []int{-1, 0, 1, 2} {
				noOutcome(t, e, n, i, api.ErrGone)
			}
		}
		number(t, "Steps", e.View().Steps, taken)
		outcome(t, e, 3, 0, api.Outcome{Commit: true})
		last(t, e, row(2), value(9))
		noOutcome(t, e, 2, 0, api.ErrGone)
	}
}
