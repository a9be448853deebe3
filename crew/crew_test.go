package crew_test

import (
	"errors"
	"slices"
	"testing"

	"prelude/api"
	"prelude/asm"
	"prelude/crew"
	"prelude/serial"
)

// bankText is chapter 4's example, and behind it a procedure for each thing that a transaction can do.
const bankText = `
proc move args 1 reads 2 writes 2 locals 0
  get 0
  arg 0
  lt
  zero go
  push 1
  abort
go:
  get 0
  arg 0
  sub
  put 0
  get 1
  arg 0
  add
  put 1
end
proc put args 1 reads 0 writes 1 locals 0
  arg 0
  put 0
end
proc drop args 0 reads 0 writes 1 locals 0
  del 0
end
proc keep args 0 reads 0 writes 1 locals 0
end
proc show args 0 reads 2 writes 0 locals 0
  has 0
  out
  get 0
  out
  has 1
  out
  get 1
  out
end
proc bump args 0 reads 1 writes 1 locals 0 # what it tells behind its put is what it has read
  get 0
  push 1
  add
  put 0
  get 0
  out
end
proc late args 2 reads 1 writes 2 locals 0 # it has put and told, when it fails by a division by its second arg, or else by its first one
  push 8
  put 0
  del 1
  push 9
  out
  push 1
  arg 1
  div
  pop
  arg 0
  abort
end
proc mix args 1 reads 0 writes 3 locals 0 # the first one gets the arg, the second one stays, the third one is gone
  arg 0
  put 0
  del 2
end
proc rest args 0 reads 0 writes 0 locals 0
end
proc copy args 0 reads 1 writes 1 locals 0 # into another key
  get 0
  put 0
end
proc wide args 0 reads 0 writes 16 locals 0
  push 3
  put 15
end
`

// The places of these procedures.
const (
	pMove = iota
	pPut
	pDrop
	pKeep
	pShow
	pBump
	pLate
	pMix
	pRest
	pCopy
	pWide
)

// bank is the library of these procedures.
func bank(t *testing.T) []api.Proc {
	t.Helper()
	lib, err := asm.Assemble(bankText)
	if err != nil {
		t.Fatal(err)
	}
	return lib
}

// at is a key of table 0.
func at(row int64) api.Key { return api.Key{Row: row} }

// set is keys of table 0, as they are listed.
func set(rows ...int64) []api.Key {
	var list []api.Key
	for _, r := range rows {
		list = append(list, at(r))
	}
	return list
}

// tx is a call without args.
func tx(proc int, reads, writes []api.Key) api.Tx {
	return api.Tx{Proc: proc, Reads: reads, Writes: writes}
}

// put puts a value at a row.
func put(v, row int64) api.Tx { return api.Tx{Proc: pPut, Args: []int64{v}, Writes: set(row)} }

// move moves an amount from one row to a later one.
func move(v, from, to int64) api.Tx {
	return api.Tx{Proc: pMove, Args: []int64{v}, Reads: set(from, to), Writes: set(from, to)}
}

// bump counts a row up by one.
func bump(row int64) api.Tx { return tx(pBump, set(row), set(row)) }

// keep declares a row, and leaves what stands there.
func keep(row int64) api.Tx { return tx(pKeep, nil, set(row)) }

// wide declares sixteen rows, from one on.
func wide(from int64) api.Tx {
	var list []api.Key
	for i := range int64(16) {
		list = append(list, at(from+i))
	}
	return tx(pWide, nil, list)
}

// puts is so many puts of a value, at rows from 0 on.
func puts(n int, v int64) []api.Tx {
	var list []api.Tx
	for i := range n {
		list = append(list, put(v, int64(i)))
	}
	return list
}

// cells is cells with values.
func cells(values ...int64) []api.Cell {
	var list []api.Cell
	for _, v := range values {
		list = append(list, api.Cell{Is: true, Value: v})
	}
	return list
}

// log is batches, of which the first is the first.
type log [][]api.Tx

// example is the batches of the chapter's first example.
func example() log { return log{{put(10, 1), put(5, 2)}, {move(4, 1, 2), move(20, 1, 2)}} }

// one is the least layout, all the greatest one.
func one() api.Layout { return api.Layout{Workers: 1, Hands: 1, Parts: 1, Ahead: 1} }
func all() api.Layout { return api.Layout{Workers: 64, Hands: 64, Parts: 256, Ahead: 16} }

// layouts is some of them: few and many of each, more workers than partitions and the other way round.
func layouts() []api.Layout {
	return []api.Layout{
		one(),
		all(),
		{Workers: 1, Hands: 2, Parts: 1, Ahead: 2},
		{Workers: 2, Hands: 3, Parts: 5, Ahead: 2},
		{Workers: 7, Hands: 4, Parts: 2, Ahead: 5},
		{Workers: 1, Hands: 64, Parts: 256, Ahead: 16},
		{Workers: 64, Hands: 1, Parts: 16, Ahead: 1},
	}
}

// answer is what a run answers without an error.
type answer struct {
	outcomes [][]api.Outcome
	rows     []api.Row
}

// plain is what the plain database answers, that runs the batches one behind the other.
func (b log) plain(t *testing.T, lib []api.Proc) answer {
	t.Helper()
	db, e := serial.New(lib)
	if e != api.OK {
		t.Fatal(e)
	}
	var a answer
	for _, list := range b {
		told, err := db.Apply(list)
		if err != nil {
			t.Fatal(err)
		}
		a.outcomes = append(a.outcomes, told)
	}
	a.rows, _ = db.Rows(db.Latest())
	return a
}

// run is what a crew answers.
func (b log) run(t *testing.T, l api.Layout, lib []api.Proc) answer {
	t.Helper()
	outcomes, rows, err := crew.Run(l, lib, b)
	if err != nil {
		t.Fatalf("%v: %v", l, err)
	}
	return answer{outcomes, rows}
}

// runs looks that a crew of each layout answers so.
func (b log) runs(t *testing.T, lib []api.Proc, want answer) {
	t.Helper()
	for _, l := range layouts() {
		if got := b.run(t, l, lib); !got.same(want) {
			t.Fatalf("%v: %v, not %v", l, got, want)
		}
	}
}

// same tells whether two answers are the same.
func (a answer) same(b answer) bool {
	return slices.Equal(a.rows, b.rows) && slices.EqualFunc(a.outcomes, b.outcomes, func(x, y []api.Outcome) bool {
		return slices.EqualFunc(x, y, sameOutcome)
	})
}

// sameOutcome tells whether two outcomes are the same.
func sameOutcome(a, b api.Outcome) bool {
	return a.Commit == b.Commit && a.Code == b.Code && a.User == b.User && slices.Equal(a.Out, b.Out) && slices.Equal(a.Read, b.Read)
}

// refuses looks that batches are refused by an error, with no answer beside it.
func refuses(t *testing.T, l api.Layout, lib []api.Proc, b log, want api.Errno) {
	t.Helper()
	outcomes, rows, err := crew.Run(l, lib, b)
	if len(outcomes)+len(rows) != 0 || err != error(want) {
		t.Errorf("%v: %v, %v, %v, not %v", l, outcomes, rows, err, want)
	}
}

// blames looks that a transaction of a batch is refused by an error, with no answer beside it.
func blames(t *testing.T, l api.Layout, lib []api.Proc, b log, place, index int, want api.Errno) {
	t.Helper()
	outcomes, rows, err := crew.Run(l, lib, b)
	if len(outcomes)+len(rows) != 0 {
		t.Errorf("beside an error: %v, %v", outcomes, rows)
	}
	outer, is := err.(*api.TxError)
	if !is || outer.Index != place {
		t.Fatalf("%v is not of batch %d", err, place)
	}
	inner, is := outer.Err.(*api.TxError)
	if !is || inner.Index != index || inner.Err != error(want) || !errors.Is(err, want) {
		t.Errorf("%v is not %v of transaction %d", outer.Err, want, index)
	}
}

// Example 1.
func TestExample(t *testing.T) {
	want := answer{
		outcomes: [][]api.Outcome{
			{{Commit: true}, {Commit: true}},
			{{Commit: true, Read: cells(10, 5)}, {Code: api.FaultAbort, User: 1, Read: cells(6, 9)}},
		},
		rows: []api.Row{{Key: at(1), Value: 6}, {Key: at(2), Value: 9}},
	}
	for range 30 {
		example().runs(t, bank(t), want)
	}
}

// Example 2.
func TestLayouts(t *testing.T) {
	refuses(t, api.Layout{}, bank(t), example(), api.ErrWorkers)
	refuses(t, api.Layout{Workers: 1, Hands: 65}, bank(t), example(), api.ErrHands)
	refuses(t, api.Layout{Workers: 1, Hands: 1, Parts: 257}, bank(t), example(), api.ErrParts)
	refuses(t, api.Layout{Workers: 1, Hands: 1, Parts: 1, Ahead: 17}, bank(t), example(), api.ErrAhead)
}

// Example 3.
func TestNotSound(t *testing.T) {
	blames(t, one(), bank(t)[:2], log{{}, {put(1, 1), {Proc: 2}}}, 1, 1, api.ErrProc)
}

// Example 4.
func TestNothing(t *testing.T) {
	for _, lib := range [][]api.Proc{bank(t), nil} {
		log{}.runs(t, lib, answer{})
		log{{}}.runs(t, lib, answer{outcomes: [][]api.Outcome{{}}})
		log{nil, {}, nil}.runs(t, lib, answer{outcomes: [][]api.Outcome{{}, {}, {}}})
	}
}

// Example 5.
func TestAsManyAsMayBe(t *testing.T) {
	var b log
	for n := range int64(1024) {
		b = append(b, puts(64, n))
	}
	lib := bank(t)
	l := api.Layout{Workers: 3, Hands: 4, Parts: 16, Ahead: 4}
	if got, want := b.run(t, l, lib), b.plain(t, lib); !got.same(want) {
		t.Error("1024 batches of 64 puts")
	}
	refuses(t, l, lib, append(b, []api.Tx{put(1, 1)}), api.ErrRoom)
}
