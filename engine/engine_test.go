package engine_test

import (
	"errors"
	"fmt"
	"math"
	"slices"
	"testing"

	"prelude/api"
	"prelude/asm"
	"prelude/engine"
)

// bankText is chapter 4's example, and behind it a procedure for each thing that a transaction can do.
const bankText = `
proc move args 1 reads 2 writes 2 locals 0
  get 0
  arg 0
  lt
  zero go
  push 1
  abort
go:
  get 0
  arg 0
  sub
  put 0
  get 1
  arg 0
  add
  put 1
end
proc put args 1 reads 0 writes 1 locals 0
  arg 0
  put 0
end
proc drop args 0 reads 0 writes 1 locals 0
  del 0
end
proc keep args 0 reads 0 writes 2 locals 0
end
proc show args 0 reads 2 writes 0 locals 0
  has 0
  out
  get 0
  out
  has 1
  out
  get 1
  out
end
proc bump args 0 reads 1 writes 1 locals 0
  get 0
  push 1
  add
  put 0
  get 0
  out
end
proc late args 1 reads 1 writes 2 locals 0 # it has put and told, when it fails by a division by its arg, or else aborts
  push 8
  put 0
  del 1
  push 9
  out
  push 1
  arg 0
  div
  abort
end
proc swap args 0 reads 2 writes 2 locals 0 # nothing too
  del 0
  del 1
  has 1
  zero one
  get 1
  put 0
one:
  has 0
  zero two
  get 0
  put 1
two:
end
proc rest args 0 reads 0 writes 0 locals 0
end
proc copy args 0 reads 1 writes 1 locals 0 # into another key
  get 0
  put 0
end
`

// The places of these procedures.
const (
	procMove = iota
	procPut
	procDrop
	procKeep
	procShow
	procBump
	procLate
	procSwap
	procRest
	procCopy
)

// bank is these procedures.
func bank() []api.Proc {
	lib, err := asm.Assemble(bankText)
	if err != nil {
		panic(err)
	}
	return lib
}

// row is a key of table 0.
func row(n int64) api.Key { return api.Key{Row: n} }

// rows is keys of table 0.
func rows(list ...int64) []api.Key {
	var set []api.Key
	for _, n := range list {
		set = append(set, row(n))
	}
	return set
}

func put(v, at int64) api.Tx { return api.Tx{Proc: procPut, Args: []int64{v}, Writes: rows(at)} }

func drop(at int64) api.Tx { return api.Tx{Proc: procDrop, Writes: rows(at)} }

func keep(a, b int64) api.Tx { return api.Tx{Proc: procKeep, Writes: rows(a, b)} }

func show(a, b int64) api.Tx { return api.Tx{Proc: procShow, Reads: rows(a, b)} }

func bump(at int64) api.Tx { return api.Tx{Proc: procBump, Reads: rows(at), Writes: rows(at)} }

func rest() api.Tx { return api.Tx{Proc: procRest} }

func copied(from, to int64) api.Tx {
	return api.Tx{Proc: procCopy, Reads: rows(from), Writes: rows(to)}
}

func move(v, from, to int64) api.Tx {
	return api.Tx{Args: []int64{v}, Reads: rows(from, to), Writes: rows(from, to)}
}

func value(v int64) api.Cell { return api.Cell{Is: true, Value: v} }

func place(n, i int) api.Place { return api.Place{Batch: n, Index: i} }

// one is the layout with one of everything.
func one() api.Layout { return api.Layout{Workers: 1, Hands: 1, Parts: 1, Ahead: 1} }

// layouts is some layouts, the least and the greatest among them.
func layouts() []api.Layout {
	return []api.Layout{
		one(),
		{Workers: 2, Hands: 2, Parts: 2, Ahead: 2},
		{Workers: 3, Hands: 1, Parts: 2, Ahead: 4},
		{Workers: 1, Hands: 5, Parts: 7, Ahead: 1},
		{Workers: api.MaxWorkers, Hands: api.MaxHands, Parts: api.MaxParts, Ahead: api.MaxAhead},
	}
}

// open is a database without batches.
func open(t *testing.T, l api.Layout, capacity int) *engine.Engine {
	t.Helper()
	e, f := engine.New(l, bank(), capacity)
	if e == nil || f != api.OK {
		t.Fatalf("New(%v, %d): %v, %d", l, capacity, e, f)
	}
	return e
}

// restored is the database of a snapshot.
func restored(t *testing.T, l api.Layout, capacity int, s api.Snapshot) *engine.Engine {
	t.Helper()
	e, f := engine.Restore(l, bank(), capacity, s)
	if e == nil || f != api.OK {
		t.Fatalf("Restore(%v, %d, %v): %v, %d", l, capacity, s, e, f)
	}
	return e
}

// posts lets a batch in.
func posts(t *testing.T, e *engine.Engine, n int, b ...api.Tx) {
	t.Helper()
	if got, err := e.Post(b); got != n || err != nil {
		t.Fatalf("Post(%v): %d, %v, not %d", b, got, err, n)
	}
}

// first is the document's first example: two batches of which no step was taken.
func first(t *testing.T, l api.Layout, capacity int) *engine.Engine {
	t.Helper()
	e := open(t, l, capacity)
	posts(t, e, 1, put(10, 1), put(5, 2))
	posts(t, e, 2, move(4, 1, 2), move(20, 1, 2))
	return e
}

// fails looks for an error.
func fails(t *testing.T, what string, got, want api.Errno) {
	t.Helper()
	if got != want {
		t.Errorf("%s: %d, not %d", what, got, want)
	}
}

// reads looks at what is read behind a pinned batch.
func reads(t *testing.T, e *engine.Engine, n int, k api.Key, want api.Cell) {
	t.Helper()
	if c, f := e.Read(n, k); c != want || f != api.OK {
		t.Errorf("Read(%d, %v): %v, %d, not %v", n, k, c, f, want)
	}
}

// last looks at what stands behind the last batch.
func last(t *testing.T, e *engine.Engine, k api.Key, want api.Cell) {
	t.Helper()
	if c, f := e.Last(k); c != want || f != api.OK {
		t.Errorf("Last(%v): %v, %d, not %v", k, c, f, want)
	}
}

// scans looks at what a Scan answers.
func scans(t *testing.T, e *engine.Engine, n int, from, to api.Key, want ...api.Row) {
	t.Helper()
	if got, f := e.Scan(n, from, to); !slices.Equal(got, want) || f != api.OK {
		t.Errorf("Scan(%d, %v, %v): %v, %d, not %v", n, from, to, got, f, want)
	}
}

// sameOutcome tells whether two outcomes are the same.
func sameOutcome(a, b api.Outcome) bool {
	return a.Commit == b.Commit && a.Code == b.Code && a.User == b.User && slices.Equal(a.Out, b.Out) && slices.Equal(a.Read, b.Read)
}

// outcome looks at what a transaction has done.
func outcome(t *testing.T, e *engine.Engine, n, i int, want api.Outcome) {
	t.Helper()
	if o, f := e.Outcome(n, i); !sameOutcome(o, want) || f != api.OK {
		t.Errorf("Outcome(%d, %d): %v, %d, not %v", n, i, o, f, want)
	}
}

// noOutcome looks for an error of Outcome.
func noOutcome(t *testing.T, e *engine.Engine, n, i int, want api.Errno) {
	t.Helper()
	if o, f := e.Outcome(n, i); !sameOutcome(o, api.Outcome{}) || f != want {
		t.Errorf("Outcome(%d, %d): %v, %d, not %d", n, i, o, f, want)
	}
}

// views looks at a View.
func views(t *testing.T, e *engine.Engine, want api.View) {
	t.Helper()
	if v := e.View(); fmt.Sprint(v) != fmt.Sprint(want) {
		t.Errorf("View: %+v, not %+v", v, want)
	}
}

// number looks at what a call answers.
func number(t *testing.T, what string, got, want int) {
	t.Helper()
	if got != want {
		t.Errorf("%s: %d, not %d", what, got, want)
	}
}

// ready looks at who has a step to take.
func ready(t *testing.T, e *engine.Engine, want ...int) {
	t.Helper()
	if got := e.Ready(); !slices.Equal(got, want) {
		t.Errorf("Ready: %v, not %v", got, want)
	}
}

// few is keys that the tests use, in the order of keys.
func few() []api.Key {
	return []api.Key{row(math.MinInt64), row(-1), row(0), row(1), row(2), row(3), {Table: 1, Row: 1}, {Table: api.MaxTable, Row: math.MaxInt64}}
}

// told is all that a database tells of this moment.
func told(e *engine.Engine) string {
	v := e.View()
	text := fmt.Sprintln(v, e.Ready())
	for h := range api.MaxHands {
		text += fmt.Sprint(e.Stack(h))
	}
	for _, k := range few() {
		text += fmt.Sprintln(k, e.Versions(k))
	}
	for n := v.Complete + 1; n <= v.Latest; n++ {
		for i := range api.MaxTxs {
			note, f := e.Note(place(n, i))
			if f != api.OK {
				break
			}
			text += fmt.Sprintln(n, i, note)
		}
	}
	return text
}

// unchanged looks that a call changes nothing of what is told.
func unchanged(t *testing.T, e *engine.Engine, what string, call func()) {
	t.Helper()
	before := told(e)
	call()
	if after := told(e); after != before {
		t.Errorf("%s has made of\n%s\nthis:\n%s", what, before, after)
	}
}

// byteError looks for an error of Submit at a byte.
func byteError(t *testing.T, e *engine.Engine, data []byte, at int, want api.Errno) {
	t.Helper()
	n, err := e.Submit(data)
	var bad *api.ByteError
	if n != 0 || !errors.As(err, &bad) || bad.At != at || bad.Err != error(want) {
		t.Errorf("Submit(%v): %d, %v, not %d at %d", data, n, err, want, at)
	}
}

// txError looks for an error at a transaction.
func txError(t *testing.T, n int, err error, at int, want api.Errno) {
	t.Helper()
	bad, is := err.(*api.TxError)
	if n != 0 || !is || bad.Index != at || bad.Err != error(want) {
		t.Errorf("%d, %v, not %d at %d", n, err, want, at)
	}
}

// refused looks for an error of the door.
func refused(t *testing.T, n int, err error, want api.Errno) {
	t.Helper()
	if n != 0 || err != error(want) {
		t.Errorf("%d, %v, not %d", n, err, want)
	}
}

// Examples 1 to 6 of the chapter.
func TestExamples(t *testing.T) {
	e := open(t, one(), 8)
	posts(t, e, 1, put(10, 1), put(5, 2)) // example 1
	ready(t, e, 0)
	views(t, e, api.View{Latest: 1, Charge: 2})
	for range 3 {
		number(t, "Step(0)", e.Step(0), 0)
	}
	ready(t, e, 1)
	number(t, "Drain", e.Drain(), 10)
	views(t, e, api.View{Latest: 1, Complete: 1, Charge: 2, Live: 2, Steps: 13})

	posts(t, e, 2, move(4, 1, 2), move(20, 1, 2)) // example 2
	last(t, e, row(1), value(6))
	last(t, e, row(2), value(9))
	number(t, "Steps", e.View().Steps, 52)
	outcome(t, e, 2, 1, api.Outcome{Code: api.FaultAbort, User: 1, Read: []api.Cell{value(6), value(9)}})

	number(t, "Collect", e.Collect(), 4) // example 3
	views(t, e, api.View{Latest: 2, Complete: 2, Floor: 2, Charge: 2, Live: 6, Steps: 52})
	number(t, "Drain", e.Drain(), 5)
	number(t, "Live", e.View().Live, 2)
	noOutcome(t, e, 2, 1, api.ErrGone)
	noOutcome(t, e, 3, 0, api.ErrBatch)

	_, f := e.Read(2, row(1)) // example 4
	fails(t, "Read(2, 1)", f, api.ErrPin)
	fails(t, "Pin(1)", e.Pin(1), api.ErrFloor)
	fails(t, "Pin(2)", e.Pin(2), api.OK)
	reads(t, e, 2, row(1), value(6))
	_, f = e.Read(2, api.Key{Table: -1})
	fails(t, "Read of no key", f, api.ErrKey)
	scans(t, e, 2, row(1), row(2), api.Row{Key: row(1), Value: 6}, api.Row{Key: row(2), Value: 9})
	scans(t, e, 2, row(2), row(1))
	_, f = e.Scan(1, row(1), row(2))
	fails(t, "Scan(1, ..)", f, api.ErrPin)

	var nine []api.Tx // example 5
	for i := range int64(9) {
		nine = append(nine, put(1, i+1))
	}
	n, err := e.Post(nine)
	refused(t, n, err, api.ErrRoom)
	byteError(t, e, []byte{7}, 1, api.ErrShort)
	n, err = e.Post([]api.Tx{{Proc: len(bank())}})
	txError(t, n, err, 0, api.ErrProc)

	s := e.Snapshot() // example 6
	if fmt.Sprint(s) != fmt.Sprint(api.Snapshot{Latest: 2, Pins: []api.Pin{{Batch: 2, Count: 1}}, Chains: []api.Chain{
		{Key: row(1), Versions: []api.Stamp{{Batch: 2, Index: 1, Cell: value(6)}}},
		{Key: row(2), Versions: []api.Stamp{{Batch: 2, Index: 1, Cell: value(9)}}},
	}}) {
		t.Errorf("Snapshot: %v", s)
	}
	again := restored(t, one(), 8, s)
	last(t, again, row(1), value(6))
	views(t, again, api.View{Latest: 2, Complete: 2, Floor: 2, Charge: 2, Live: 2, Pins: s.Pins})
}

// Examples 1 to 7 and 9 of the whole: with every layout.
func TestExamplesOfTheWhole(t *testing.T) {
	for _, l := range layouts() {
		e := first(t, l, 8)
		e.Drain()
		views(t, e, api.View{Latest: 2, Complete: 2, Charge: 6, Live: 6, Steps: 50 + 2*l.Workers})
		outcome(t, e, 1, 0, api.Outcome{Commit: true})
		outcome(t, e, 1, 1, api.Outcome{Commit: true})
		outcome(t, e, 2, 0, api.Outcome{Commit: true, Read: []api.Cell{value(10), value(5)}})
		outcome(t, e, 2, 1, api.Outcome{Code: api.FaultAbort, User: 1, Read: []api.Cell{value(6), value(9)}})
		last(t, e, row(1), value(6))
		last(t, e, row(2), value(9))
		four := []api.Tx{put(1, 3), put(1, 4), move(1, 1, 2)}
		n, err := e.Post(four)
		refused(t, n, err, api.ErrRoom)
		number(t, "Collect", e.Collect(), 4)
		posts(t, e, 3, four...)

		e = first(t, l, 8)
		posts(t, e, 3, put(1, 3))

		e = first(t, l, 8)
		fails(t, "Pin(1)", e.Pin(1), api.OK)
		number(t, "Collect", e.Collect(), 2)
		reads(t, e, 1, row(1), value(10))
		_, f := e.Read(2, row(1))
		fails(t, "Read(2, 1)", f, api.ErrPin)
		fails(t, "Pin(1)", e.Pin(1), api.OK)
		fails(t, "Pin(0)", e.Pin(0), api.ErrFloor)
		fails(t, "Pin(2)", e.Pin(2), api.OK)
		fails(t, "Pin(3)", e.Pin(3), api.ErrBatch)
		fails(t, "Unpin(1)", e.Unpin(1), api.OK)
		fails(t, "Unpin(1)", e.Unpin(1), api.OK)
		number(t, "Collect", e.Collect(), 2)
	}
}

// Example 8 of the whole: a hand that wants a version which is not filled does its transaction first.
func TestHelp(t *testing.T) {
	e := first(t, api.Layout{Workers: 2, Hands: 2, Parts: 2, Ahead: 2}, 8)
	takes := func(at int) {
		t.Helper()
		i := slices.Index(e.Ready(), at)
		if i < 0 {
			t.Fatalf("the task at %d is not ready", at)
		}
		number(t, "Step", e.Step(i), at)
	}
	for len(e.Ready()) > 0 && e.Ready()[0] < 2 {
		e.Step(0)
	}
	for e.View().Complete < 1 {
		takes(2)
	}
	takes(3)
	if s := e.Stack(1); !slices.Equal(s, []api.Place{place(2, 1)}) {
		t.Fatalf("Stack(1): %v", s)
	}
	takes(3)
	if s := e.Stack(1); !slices.Equal(s, []api.Place{place(2, 1), place(2, 0)}) {
		t.Fatalf("Stack(1): %v", s)
	}
	e.Drain()
	outcome(t, e, 2, 0, api.Outcome{Commit: true, Read: []api.Cell{value(10), value(5)}})
	outcome(t, e, 2, 1, api.Outcome{Code: api.FaultAbort, User: 1, Read: []api.Cell{value(6), value(9)}})
}
