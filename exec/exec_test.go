package exec_test

import (
	"fmt"
	"slices"
	"strings"
	"testing"

	"prelude/api"
	"prelude/asm"
	"prelude/cc"
	"prelude/exec"
	"prelude/store"
)

// bankText is chapter 4's example, and behind it a procedure for each thing that a transaction can do.
const bankText = `
proc move args 1 reads 2 writes 2 locals 0
  get 0
  arg 0
  lt
  zero go
  push 1
  abort
go:
  get 0
  arg 0
  sub
  put 0
  get 1
  arg 0
  add
  put 1
end
proc put args 1 reads 0 writes 1 locals 0
  arg 0
  put 0
end
proc drop args 0 reads 0 writes 1 locals 0
  del 0
end
proc keep args 0 reads 0 writes 1 locals 0
end
proc mix args 1 reads 0 writes 3 locals 0 # the first one gets the arg, the second one nothing, the third one stays
  arg 0
  put 0
  del 1
end
proc show args 0 reads 2 writes 0 locals 0
  has 0
  out
  get 0
  out
  has 1
  out
  get 1
  out
end
proc bump args 0 reads 1 writes 1 locals 0 # what it tells behind its puts is what it has read
  get 0
  push 1
  add
  put 0
  get 0
  out
  has 0
  out
end
proc late args 2 reads 1 writes 2 locals 0 # it has put and told, when it fails by a division by its second arg, or else by its first one
  push 8
  put 0
  del 1
  push 9
  out
  push 1
  arg 1
  div
  pop
  arg 0
  abort
end
proc pick args 1 reads 1 writes 1 locals 0
  arg 0
  getx
  put 0
end
proc shift args 1 reads 0 writes 1 locals 0
  push 1
  arg 0
  shl
  put 0
end
proc swap args 0 reads 2 writes 2 locals 0 # nothing too
  del 0
  del 1
  has 1
  zero one
  get 1
  put 0
one:
  has 0
  zero two
  get 0
  put 1
two:
end
proc rest args 0 reads 0 writes 0 locals 0
end
proc copy args 0 reads 1 writes 1 locals 0 # into another key
  get 0
  put 0
end
proc halt args 0 reads 0 writes 1 locals 0
  stop
  del 0
end
`

// The places of these procedures.
const (
	pMove = iota
	pPut
	pDrop
	pKeep
	pMix
	pShow
	pBump
	pLate
	pPick
	pShift
	pSwap
	pRest
	pCopy
	pHalt
)

// bank is the library of these procedures.
func bank(t *testing.T) []api.Proc {
	t.Helper()
	lib, err := asm.Assemble(bankText)
	if err != nil {
		t.Fatal(err)
	}
	return lib
}

// at is a key of table 0.
func at(row int64) api.Key { return api.Key{Row: row} }

// set is keys of table 0, as they are listed.
func set(rows ...int64) []api.Key {
	var list []api.Key
	for _, r := range rows {
		list = append(list, at(r))
	}
	return list
}

// run is so many keys of table 0, from a row on.
func run(from int64, n int) []api.Key {
	var list []api.Key
	for i := range n {
		list = append(list, at(from+int64(i)))
	}
	return list
}

// tx is a call without args.
func tx(proc int, reads, writes []api.Key) api.Tx {
	return api.Tx{Proc: proc, Reads: reads, Writes: writes}
}

// put puts a value at a row.
func put(v, row int64) api.Tx {
	return api.Tx{Proc: pPut, Args: []int64{v}, Writes: set(row)}
}

// move moves an amount from one row to a later one.
func move(v, from, to int64) api.Tx {
	return api.Tx{Proc: pMove, Args: []int64{v}, Reads: set(from, to), Writes: set(from, to)}
}

// bump counts a row up by one.
func bump(row int64) api.Tx { return tx(pBump, set(row), set(row)) }

// keep declares a row, and leaves what stands there.
func keep(row int64) api.Tx { return tx(pKeep, nil, set(row)) }

// p is a place.
func p(batch, index int) api.Place { return api.Place{Batch: batch, Index: index} }

// is is a cell with a value.
func is(v int64) api.Cell { return api.Cell{Is: true, Value: v} }

// cells is cells with values.
func cells(values ...int64) []api.Cell {
	var list []api.Cell
	for _, v := range values {
		list = append(list, is(v))
	}
	return list
}

// plan is how a world is made.
type plan struct {
	lib                                    []api.Proc
	parts, capacity, workers, ahead, hands int
	latest                                 int
}

// world is a store, a board over it, and hands for it.
type world struct {
	plan
	st *store.Store
	b  *cc.Board
	x  *exec.Hands
}

// make is a world of a plan, with nothing in it.
func (l plan) make(t *testing.T) world {
	t.Helper()
	st, e := store.New(l.parts, l.capacity)
	if e != api.OK {
		t.Fatalf("a store of %d, %d: %d", l.parts, l.capacity, e)
	}
	return l.over(t, st)
}

// over is a world of a plan over a store.
func (l plan) over(t *testing.T, st *store.Store) world {
	t.Helper()
	b, e := cc.New(st, l.workers, l.ahead, l.latest)
	if e != api.OK {
		t.Fatalf("a board of %d, %d, %d: %d", l.workers, l.ahead, l.latest, e)
	}
	x, e := exec.New(b, st, l.lib, l.hands)
	if x == nil || e != api.OK {
		t.Fatalf("New(%d): %v, %d", l.hands, x, e)
	}
	return world{l, st, b, x}
}

// small is the plan of the chapter's examples, with so many hands and the bank.
func small(t *testing.T, hands int) plan {
	t.Helper()
	return plan{lib: bank(t), parts: 1, capacity: 2000, workers: 1, ahead: 4, hands: hands}
}

// laid is a small world in which batches are posted and laid.
func laid(t *testing.T, hands int, batches ...[]api.Tx) world {
	t.Helper()
	w := small(t, hands).make(t)
	w.posts(t, batches...)
	w.lays()
	return w
}

// example is the world of the chapter's examples.
func example(t *testing.T, hands int) world {
	t.Helper()
	return laid(t, hands, []api.Tx{put(10, 1), put(5, 2)}, []api.Tx{move(4, 1, 2), move(20, 1, 2)})
}

// posts puts batches on the board.
func (w world) posts(t *testing.T, batches ...[]api.Tx) {
	t.Helper()
	for _, list := range batches {
		if w.b.Post(list) == 0 {
			t.Fatalf("%v is refused", list)
		}
	}
}

// lays lets the workers take all their steps.
func (w world) lays() {
	for moved := true; moved; {
		moved = false
		for k := range w.workers {
			moved = w.b.Step(k) || moved
		}
	}
}

// steps lets a hand take so many steps.
func (w world) steps(t *testing.T, h, n int) {
	t.Helper()
	for i := range n {
		if !w.x.Ready(h) || !w.x.Step(h) {
			t.Fatalf("hand %d takes no step behind %d of %d", h, i, n)
		}
	}
}

// waits looks that hands are not ready, and that a step of them does nothing.
func (w world) waits(t *testing.T, hands ...int) {
	t.Helper()
	for _, h := range hands {
		was := w.told()
		if w.x.Ready(h) || w.x.Step(h) {
			t.Errorf("hand %d is ready", h)
		}
		if is := w.told(); is != was {
			t.Errorf("the step of hand %d has left %s, not %s", h, is, was)
		}
	}
}

// rests lets the hands take steps in turn until none is ready, and tells how many they took.
func (w world) rests() int {
	n := 0
	for moved := true; moved; {
		moved = false
		for h := range w.hands {
			if w.x.Step(h) {
				moved = true
				n++
			}
		}
	}
	return n
}

// stack looks at a hand's stack.
func (w world) stack(t *testing.T, h int, want ...api.Place) {
	t.Helper()
	if got := w.x.Stack(h); !slices.Equal(got, want) {
		t.Errorf("Stack(%d): %v, not %v", h, got, want)
	}
	for _, at := range want {
		if w.b.Holder(at) != h {
			t.Errorf("%v is claimed by %d, not %d", at, w.b.Holder(at), h)
		}
	}
}

// filled looks that a version is filled with a cell.
func (w world) filled(t *testing.T, v int, want api.Cell) {
	t.Helper()
	if got, e := w.st.Look(v); e != api.OK || !got.Filled || got.Cell != want {
		t.Errorf("version %d is %v, %d, not filled with %v", v, got, e, want)
	}
}

// open looks that versions are not filled.
func (w world) open(t *testing.T, versions ...int) {
	t.Helper()
	for _, v := range versions {
		if got, e := w.st.Look(v); e != api.OK || got.Filled {
			t.Errorf("version %d is %v, %d, filled already", v, got, e)
		}
	}
}

// outcome looks at what a transaction has done.
func (w world) outcome(t *testing.T, at api.Place, want api.Outcome) {
	t.Helper()
	if got, e := w.b.Outcome(at); e != api.OK || !sameOutcome(got, want) {
		t.Errorf("Outcome(%v): %v, %d, not %v", at, got, e, want)
	}
}

// undone looks that transactions are not done.
func (w world) undone(t *testing.T, places ...api.Place) {
	t.Helper()
	for _, at := range places {
		if got, e := w.b.Outcome(at); e != api.ErrClaim {
			t.Errorf("Outcome(%v): %v, %d, not ErrClaim", at, got, e)
		}
	}
}

// sameOutcome tells whether two outcomes are the same.
func sameOutcome(a, b api.Outcome) bool {
	return a.Commit == b.Commit && a.Code == b.Code && a.User == b.User && slices.Equal(a.Out, b.Out) && slices.Equal(a.Read, b.Read)
}

// told is the text of all that can be told of a world.
func (w world) told() string {
	var s strings.Builder
	fmt.Fprintln(&s, w.b.Latest(), w.b.Laid(), w.b.Complete())
	for h := -1; h <= w.hands; h++ {
		fmt.Fprint(&s, w.x.Ready(h), w.x.Stack(h), " ")
	}
	for n := max(0, w.b.Complete()-2); n <= w.b.Latest()+1; n++ {
		size, e := w.b.Size(n)
		fmt.Fprintln(&s, "\n", n, size, e)
		for i := range size {
			fmt.Fprint(&s, w.b.Holder(p(n, i)), " ")
			s.WriteString(fmt.Sprintln(w.b.Note(p(n, i))))
			s.WriteString(fmt.Sprintln(w.b.Outcome(p(n, i))))
		}
	}
	for part := range w.st.Parts() {
		for _, k := range w.st.Keys(part) {
			fmt.Fprint(&s, k, w.st.Newest(k), w.st.Chain(k), "; ")
		}
	}
	fmt.Fprint(&s, w.st.Live())
	return s.String()
}

// Example 1.
func TestFirstHand(t *testing.T) {
	w := example(t, 2)
	for _, done := range []int{0, 1, 2} { // behind the claim and each instruction
		w.steps(t, 0, 1)
		w.stack(t, 0, p(1, 0))
		w.open(t, 1)
		if w.waits(t, 2); t.Failed() {
			t.Fatalf("behind %d instructions", done)
		}
	}
	w.steps(t, 0, 1)
	w.filled(t, 1, is(10))
	w.undone(t, p(1, 0))
	w.stack(t, 0, p(1, 0))
	w.steps(t, 0, 1)
	w.outcome(t, p(1, 0), api.Outcome{Commit: true})
	w.stack(t, 0)
	if w.b.Complete() != 0 {
		t.Errorf("Complete: %d", w.b.Complete())
	}
	w.waits(t, 2, -1)
	w.stack(t, 2)
}

// Example 2.
func TestHelps(t *testing.T) {
	w := example(t, 2)
	w.steps(t, 0, 5)
	w.steps(t, 1, 1)
	w.stack(t, 1, p(2, 0))
	w.steps(t, 1, 1)
	w.stack(t, 1, p(2, 0))
	w.steps(t, 1, 1)
	w.stack(t, 1, p(2, 0), p(1, 1))
	w.steps(t, 1, 4)
	w.filled(t, 2, is(5))
	w.outcome(t, p(1, 1), api.Outcome{Commit: true})
	w.stack(t, 1, p(2, 0))
	w.steps(t, 1, 1)
	w.stack(t, 1, p(2, 0))
	w.steps(t, 1, 12)
	w.open(t, 3, 4)
	w.steps(t, 1, 2)
	w.filled(t, 3, is(6))
	w.filled(t, 4, is(9))
	w.steps(t, 1, 1)
	w.outcome(t, p(2, 0), api.Outcome{Commit: true, Read: cells(10, 5)})
}

// Example 3.
func TestWaits(t *testing.T) {
	w := example(t, 2)
	w.steps(t, 1, 1)
	w.stack(t, 1, p(1, 1))
	w.steps(t, 0, 5)
	w.outcome(t, p(1, 0), api.Outcome{Commit: true})
	w.steps(t, 0, 1)
	w.stack(t, 0, p(2, 0))
	w.steps(t, 0, 1)
	w.waits(t, 0)
	w.stack(t, 0, p(2, 0))
	for range 2 { // the instructions
		w.steps(t, 1, 1)
		w.waits(t, 0)
	}
	w.steps(t, 1, 1)
	if !w.x.Ready(0) {
		t.Error("version 2 is filled, and hand 0 waits for its transaction's end")
	}
	w.steps(t, 1, 1)
	if !w.x.Ready(0) {
		t.Error("{1, 1} is done, and hand 0 waits")
	}
	w.steps(t, 0, 1)
	w.stack(t, 0, p(2, 0))
}

// Example 4.
func TestManyHands(t *testing.T) {
	w := example(t, 3)
	w.steps(t, 2, 1)
	w.stack(t, 2, p(2, 0))
	w.steps(t, 2, 1)
	w.stack(t, 2, p(2, 0), p(1, 0))
	w.steps(t, 2, 2)
	w.open(t, 1)
	w.steps(t, 2, 1)
	w.filled(t, 1, is(10))

	w = example(t, 64)
	w.steps(t, 63, 1)
	w.stack(t, 63, p(2, 1))
	w.steps(t, 63, 1)
	w.stack(t, 63, p(2, 1), p(2, 0))
	w.steps(t, 63, 1)
	w.stack(t, 63, p(2, 1), p(2, 0), p(1, 0))
}

// Example 5.
func TestAbort(t *testing.T) {
	w := example(t, 2)
	for i, n := range []int{5, 5, 18, 12} {
		at := p(1+i/2, i%2)
		w.steps(t, 0, 1)
		w.stack(t, 0, at)
		w.steps(t, 0, n-2)
		w.stack(t, 0, at)
		w.steps(t, 0, 1)
		w.stack(t, 0)
	}
	w.waits(t, 0, 1)
	w.filled(t, 3, is(6))
	w.filled(t, 4, is(9))
	w.filled(t, 5, is(6))
	w.filled(t, 6, is(9))
	w.outcome(t, p(2, 1), api.Outcome{Code: api.FaultAbort, User: 1, Read: cells(6, 9)})
	if w.b.Complete() != 2 {
		t.Errorf("Complete: %d", w.b.Complete())
	}
}

// Example 6.
func TestNoProcedure(t *testing.T) {
	lib := bank(t)[:2]
	w := plan{lib: lib, parts: 1, capacity: 9, workers: 1, ahead: 1, hands: 1}.make(t)
	w.posts(t, []api.Tx{put(10, 1), {Proc: 7, Args: []int64{1}, Reads: set(1, 2), Writes: set(1, 2, 3)}})
	w.lays()
	w.steps(t, 0, 5)
	w.steps(t, 0, 6)
	w.undone(t, p(1, 1))
	w.filled(t, 2, is(10))
	w.filled(t, 3, api.Cell{})
	w.filled(t, 4, api.Cell{})
	w.steps(t, 0, 1)
	w.outcome(t, p(1, 1), api.Outcome{Code: api.ErrProc, Read: []api.Cell{is(10), {}}})
	w.waits(t, 0)
}

// Example 7.
func TestNoHands(t *testing.T) {
	w := example(t, 2)
	for _, hands := range []int{0, 65} {
		if x, e := exec.New(w.b, w.st, w.lib, hands); x != nil || e != api.ErrHands {
			t.Errorf("New(%d): %v, %d", hands, x, e)
		}
	}
}
