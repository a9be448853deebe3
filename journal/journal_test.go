package journal_test

import (
	"bytes"
	"errors"
	"fmt"
	"math"
	"slices"
	"testing"

	"prelude/api"
	"prelude/asm"
	"prelude/batch"
	"prelude/codec"
	"prelude/engine"
	"prelude/journal"
)

// bankText is chapter 4's example, and behind it some procedures that leave other things.
const bankText = `
proc move args 1 reads 2 writes 2 locals 0
  get 0
  arg 0
  lt
  zero go
  push 1
  abort
go:
  get 0
  arg 0
  sub
  put 0
  get 1
  arg 0
  add
  put 1
end
proc put args 1 reads 0 writes 1 locals 0
  arg 0
  put 0
end
proc drop args 0 reads 0 writes 1 locals 0
  del 0
end
proc keep args 0 reads 0 writes 2 locals 0
end
proc bump args 0 reads 1 writes 1 locals 0
  get 0
  push 1
  add
  put 0
  get 0
  out
end
proc rest args 0 reads 0 writes 0 locals 0
end
`

// The places of these procedures.
const (
	procMove = iota
	procPut
	procDrop
	procKeep
	procBump
	procRest
)

// The kinds of records, as the chapter numbers them.
const (
	head    = 72
	lot     = 66
	pin     = 80
	unpin   = 85
	collect = 67
)

// bank is these procedures.
func bank() []api.Proc {
	lib, err := asm.Assemble(bankText)
	if err != nil {
		panic(err)
	}
	return lib
}

// row is a key of table 0.
func row(n int64) api.Key { return api.Key{Row: n} }

// rows is keys of table 0.
func rows(list ...int64) []api.Key {
	var set []api.Key
	for _, n := range list {
		set = append(set, row(n))
	}
	return set
}

func put(v, at int64) api.Tx { return api.Tx{Proc: procPut, Args: []int64{v}, Writes: rows(at)} }

func drop(at int64) api.Tx { return api.Tx{Proc: procDrop, Writes: rows(at)} }

func keep(a, b int64) api.Tx { return api.Tx{Proc: procKeep, Writes: rows(a, b)} }

func bump(at int64) api.Tx { return api.Tx{Proc: procBump, Reads: rows(at), Writes: rows(at)} }

func move(v, from, to int64) api.Tx {
	return api.Tx{Proc: procMove, Args: []int64{v}, Reads: rows(from, to), Writes: rows(from, to)}
}

func value(v int64) api.Cell { return api.Cell{Is: true, Value: v} }

// one is the layout with one of everything.
func one() api.Layout { return api.Layout{Workers: 1, Hands: 1, Parts: 1, Ahead: 1} }

// layouts is some layouts, the least and the greatest among them.
func layouts() []api.Layout {
	return []api.Layout{
		one(),
		{Workers: 2, Hands: 2, Parts: 3, Ahead: 2},
		{Workers: 3, Hands: 1, Parts: 2, Ahead: 4},
		{Workers: api.MaxWorkers, Hands: api.MaxHands, Parts: api.MaxParts, Ahead: api.MaxAhead},
	}
}

// encoded is a batch's bytes.
func encoded(b ...api.Tx) []byte {
	data, f := batch.Encode(b)
	if f != api.OK {
		panic(f)
	}
	return data
}

// number is a number without sign, as chapter 1 writes it.
func number(n int) []byte {
	var b []byte
	for ; n >= 128; n /= 128 {
		b = append(b, byte(n%128+128))
	}
	return append(b, byte(n))
}

// signed is a number with sign, as chapter 1 writes it.
func signed(n int64) []byte {
	w := codec.New()
	w.Int(n)
	return w.Out()
}

// created is a new database of the bank.
func created(t *testing.T, l api.Layout, capacity int) *journal.DB {
	t.Helper()
	d, f := journal.Create(l, bank(), capacity)
	if d == nil || f != api.OK {
		t.Fatalf("Create(%v, %d): %v, %d", l, capacity, d, f)
	}
	return d
}

// opened is the database of a journal.
func opened(t *testing.T, l api.Layout, data []byte) *journal.DB {
	t.Helper()
	d, err := journal.Open(l, data)
	if d == nil || err != nil {
		t.Fatalf("Open: %v, %v", d, err)
	}
	return d
}

// posts lets a batch in.
func posts(t *testing.T, d *journal.DB, n int, b ...api.Tx) {
	t.Helper()
	if got, err := d.Post(b); got != n || err != nil {
		t.Fatalf("Post(%v): %d, %v, not %d", b, got, err, n)
	}
}

// fails looks for an error.
func fails(t *testing.T, what string, got, want api.Errno) {
	t.Helper()
	if got != want {
		t.Errorf("%s: %d, not %d", what, got, want)
	}
}

// reads looks at what is read behind a pinned batch.
func reads(t *testing.T, d *journal.DB, n int, k api.Key, want api.Cell) {
	t.Helper()
	if c, f := d.Read(n, k); c != want || f != api.OK {
		t.Errorf("Read(%d, %v): %v, %d, not %v", n, k, c, f, want)
	}
}

// writes looks that a call puts just these bytes behind what the journal has.
func writes(t *testing.T, d *journal.DB, what string, call func(), want ...[]byte) {
	t.Helper()
	before := d.Bytes()
	call()
	if after := d.Bytes(); !bytes.Equal(after, slices.Concat(append([][]byte{before}, want...)...)) {
		t.Errorf("%s has made of\n%v\nthis:\n%v", what, before, after)
	}
}

// at looks for an error at a byte.
func at(t *testing.T, what string, err error, place int, want api.Errno) {
	t.Helper()
	bad, is := err.(*api.ByteError)
	if !is || bad.At != place || bad.Err != error(want) {
		t.Errorf("%s: %v, not %d at %d", what, err, want, place)
	}
}

// refuses looks that a journal is not opened, by an error at a byte.
func refuses(t *testing.T, what string, data []byte, place int, want api.Errno) {
	t.Helper()
	for _, l := range []api.Layout{one(), {Workers: 2, Hands: 3, Parts: 4, Ahead: 2}} {
		d, err := journal.Open(l, data)
		if d != nil {
			t.Errorf("%s: a database beside %v", what, err)
		}
		at(t, what, err, place, want)
	}
}

// scans looks at what Scan answers of bytes that are records to their end.
func scans(t *testing.T, data []byte, n int) {
	t.Helper()
	if got, size, err := journal.Scan(data); got != n || size != len(data) || err != nil {
		t.Errorf("Scan: %d, %d, %v, not %d, %d", got, size, err, n, len(data))
	}
}

// holds looks that a record stands in a journal at a place.
func holds(t *testing.T, data []byte, place int, kind byte, load ...byte) {
	t.Helper()
	if k, l, _, f := codec.Unseal(data, place); k != kind || !bytes.Equal(l, load) || f != api.OK {
		t.Errorf("at %d: %d, %v, %d, not %d, %v", place, k, l, f, kind, load)
	}
}

// client is the calls that are told alike of an engine and of a database with a journal.
type client interface {
	Submit(data []byte) (int, error)
	Post(b []api.Tx) (int, error)
	Pin(n int) api.Errno
	Unpin(n int) api.Errno
	Collect() int
	Snapshot() api.Snapshot
	Read(n int, k api.Key) (api.Cell, api.Errno)
	Last(k api.Key) (api.Cell, api.Errno)
	Scan(n int, from, to api.Key) ([]api.Row, api.Errno)
	Outcome(n, i int) (api.Outcome, api.Errno)
	Drain() int
	Step(pick int) int
	View() api.View
}

// few is keys that the tests use, in the order of keys.
func few() []api.Key {
	return []api.Key{row(math.MinInt64), row(-1), row(0), row(1), row(2), row(3), {Table: 1, Row: 1}, {Table: api.MaxTable, Row: math.MaxInt64}}
}

// lowest and highest are the first and the last key.
func lowest() api.Key { return row(math.MinInt64) }

func highest() api.Key { return api.Key{Table: api.MaxTable, Row: math.MaxInt64} }

// standing is what a client can be told at this moment, without a change.
func standing(d client) string {
	v := d.View()
	text := fmt.Sprintln(v.Latest, v.Floor, v.Charge, v.Pins)
	for _, k := range few() {
		c, f := d.Last(k)
		text += fmt.Sprintln(k, c, f)
	}
	for n := v.Latest + 1; n >= 0 && n >= v.Latest-9; n-- {
		list, f := d.Scan(n, lowest(), highest())
		text += fmt.Sprintln(n, list, f)
		for i := range 6 {
			o, f := d.Outcome(n, i)
			text += fmt.Sprintln(n, i, o, f)
		}
	}
	return text
}

// further is what a client is told behind calls that change something.
func further(d client) string {
	text := standing(d)
	for n := range 4 {
		text += fmt.Sprintln(d.Pin(n), d.Unpin(n+1))
	}
	text += answer(d.Post([]api.Tx{bump(1), move(3, 1, 2)}))
	text += standing(d)
	text += answer(d.Submit(encoded(put(7, 3), drop(1))))
	text += fmt.Sprintln(d.Pin(d.View().Latest), d.Collect())
	text += answer(d.Post([]api.Tx{keep(1, 2)}))
	text += standing(d)
	return text + fmt.Sprintln(d.Snapshot()) + standing(d)
}

// answer is what a call that answers a number and an error has answered, as text.
func answer(n int, err error) string {
	var tx *api.TxError
	if errors.As(err, &tx) {
		return fmt.Sprintln(n, "TxError", tx.Index, tx.Err)
	}
	var bad *api.ByteError
	if errors.As(err, &bad) {
		return fmt.Sprintln(n, "ByteError", bad.At, bad.Err)
	}
	return fmt.Sprintln(n, err)
}

// played is a database of the engine behind some operations.
func played(t *testing.T, l api.Layout, capacity int, ops ...op) *engine.Engine {
	t.Helper()
	e, f := engine.New(l, bank(), capacity)
	if f != api.OK {
		t.Fatal(f)
	}
	for _, o := range ops {
		o(e)
	}
	return e
}

// op is an operation that is let in.
type op func(d client)

func posting(b ...api.Tx) op { return func(d client) { d.Post(b) } }

func pinning(n int) op { return func(d client) { d.Pin(n) } }

func unpinning(n int) op { return func(d client) { d.Unpin(n) } }

func collecting(d client) { d.Collect() }

func snapping(d client) { d.Snapshot() }

// some is operations that are all let in, with a capacity of 12.
func some() []op {
	return []op{
		posting(put(10, 1), put(5, 2)),
		pinning(1),
		posting(move(4, 1, 2), move(20, 1, 2)),
		pinning(0),
		collecting,
		posting(),
		pinning(1),
		unpinning(1),
		posting(drop(2), bump(1), api.Tx{Proc: procRest}),
		snapping,
		unpinning(1),
		posting(put(math.MinInt64, 3), put(math.MaxInt64, -1)),
		collecting,
		collecting,
		pinning(5),
	}
}

// written is a journal's database behind some operations.
func written(t *testing.T, l api.Layout, capacity int, ops ...op) *journal.DB {
	t.Helper()
	d := created(t, l, capacity)
	for i, o := range ops {
		n, _, _ := journal.Scan(d.Bytes())
		o(d)
		if m, _, err := journal.Scan(d.Bytes()); m != n+1 || err != nil {
			t.Fatalf("operation %d: %d records behind %d, %v", i, m, n, err)
		}
	}
	return d
}

// ends is the places at which a journal's records end.
func ends(t *testing.T, data []byte) []int {
	t.Helper()
	var list []int
	for place := 0; place < len(data); {
		_, _, behind, f := codec.Unseal(data, place)
		if f != api.OK {
			t.Fatal(f)
		}
		list = append(list, behind)
		place = behind
	}
	return list
}

// Examples 1 to 5 of the chapter.
func TestExamples(t *testing.T) {
	d, f := journal.Create(one(), nil, 8) // example 1
	fails(t, "Create", f, api.OK)
	scans(t, d.Bytes(), 1)
	holds(t, d.Bytes(), 0, head, 80, 82, 74, 49, 8, 5, 80, 82, 76, 49, 0, 0, 0, 0)
	if len(d.Bytes()) != 27 {
		t.Errorf("%d bytes", len(d.Bytes()))
	}

	d = created(t, one(), 8) // example 2
	size := len(d.Bytes())
	posts(t, d, 1, put(10, 1))
	holds(t, d.Bytes(), size, lot, 1, 1, 1, 20, 0, 1, 0, 0, 128, 0, 0, 0, 0, 0, 0, 1)
	d.Post([]api.Tx{{Proc: procRest + 1}})
	if len(d.Bytes()) != size+29 {
		t.Errorf("%d bytes more", len(d.Bytes())-size)
	}
	fails(t, "Pin(1)", d.Pin(1), api.OK)
	holds(t, d.Bytes(), size+29, pin, 1)
	fails(t, "Pin(9)", d.Pin(9), api.ErrBatch)
	if len(d.Bytes()) != size+29+14 {
		t.Errorf("%d bytes more", len(d.Bytes())-size)
	}
	d.Collect()
	holds(t, d.Bytes(), size+29+14, collect)
	reads(t, d, 1, row(1), value(10))
	d.Outcome(1, 0)
	all := d.Bytes()
	if len(all) != size+29+14+13 {
		t.Errorf("%d bytes more", len(all)-size)
	}

	again := opened(t, one(), all[:len(all)-1]) // example 3
	if v := again.View(); v.Floor != 0 || v.Latest != 1 || !bytes.Equal(again.Bytes(), all[:size+29+14]) {
		t.Errorf("%v, %v", v, again.Bytes())
	}
	refuses(t, "nothing", nil, 0, api.ErrHead)
	refuses(t, "a head without its last byte", all[:size-1], 0, api.ErrHead)

	more := func(b []byte) []byte { return slices.Concat(all, b) } // example 4
	refuses(t, "a collect with a load", more(codec.Seal(collect, []byte{1})), len(all), api.ErrRecord)
	refuses(t, "a record 88", more(codec.Seal(88, nil)), len(all), api.ErrRecord)
	refuses(t, "a pin of 9", more(codec.Seal(pin, []byte{9})), len(all), api.ErrReplay)
	if again := opened(t, one(), more([]byte{67})); !bytes.Equal(again.Bytes(), all) {
		t.Errorf("one more byte: %v", again.Bytes())
	}

	none := api.Layout{Hands: 1, Parts: 1, Ahead: 1} // example 5
	if d, err := journal.Open(none, all); d != nil || err != error(api.ErrWorkers) {
		t.Errorf("Open without workers: %v, %v", d, err)
	}
	_, err := journal.Open(none, nil)
	at(t, "Open of nothing", err, 0, api.ErrHead)
}

// Example 6 of the chapter.
func TestExampleOfCompact(t *testing.T) {
	d := created(t, one(), 8)
	posts(t, d, 1, put(10, 1), put(5, 2))
	posts(t, d, 2, move(4, 1, 2))
	fails(t, "Pin(1)", d.Pin(1), api.OK)
	d.Compact()
	scans(t, d.Bytes(), 1)
	holds(t, d.Bytes(), 0, head, headLoad(8, bank(), api.Snapshot{Latest: 2, Pins: []api.Pin{{Batch: 1, Count: 1}}, Chains: []api.Chain{
		{Key: row(1), Versions: []api.Stamp{{Batch: 1, Index: 0, Cell: value(10)}, {Batch: 2, Index: 0, Cell: value(6)}}},
		{Key: row(2), Versions: []api.Stamp{{Batch: 1, Index: 1, Cell: value(5)}, {Batch: 2, Index: 0, Cell: value(9)}}},
	}})...)
	again := opened(t, one(), d.Bytes())
	reads(t, again, 1, row(1), value(10))
	reads(t, again, 1, row(2), value(5))
}
