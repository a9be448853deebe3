package sched_test

import (
	"math/rand"
	"testing"

	"prelude/api"
	"prelude/asm"
	"prelude/cc"
	"prelude/exec"
	"prelude/sched"
	"prelude/store"
	"prelude/sweep"
)

// bankText is chapter 4's example.
const bankText = `
proc move args 1 reads 2 writes 2 locals 0
  get 0
  arg 0
  lt
  zero go
  push 1
  abort
go:
  get 0
  arg 0
  sub
  put 0
  get 1
  arg 0
  add
  put 1
end
proc put args 1 reads 0 writes 1 locals 0
  arg 0
  put 0
end
`

// part is a worker, a hand or the sweeper as a task.
type part struct {
	ready func() bool
	step  func() bool
	idle  int // its steps in vain
}

func (p *part) Ready() bool { return p.ready() }

func (p *part) Step() {
	if !p.step() {
		p.idle++
	}
}

// bank is the two batches of the document's first example on a board, a collect behind them, and all their tasks in one line.
type bank struct {
	board *cc.Board
	st    *store.Store
	parts []*part
	line  *sched.Line
}

// newBank is a bank of which no step was taken.
func newBank(t *testing.T, workers, hands int) *bank {
	t.Helper()
	lib, err := asm.Assemble(bankText)
	if err != nil {
		t.Fatal(err)
	}
	st, _ := store.New(4, 8)
	b, _ := cc.New(st, workers, 2, 0)
	x, _ := exec.New(b, st, lib, hands)
	s := sweep.New(b, st)
	k := &bank{board: b, st: st}
	for i := range workers {
		k.parts = append(k.parts, &part{ready: func() bool { return b.Ready(i) }, step: func() bool { return b.Step(i) }})
	}
	for i := range hands {
		k.parts = append(k.parts, &part{ready: func() bool { return x.Ready(i) }, step: func() bool { return x.Step(i) }})
	}
	k.parts = append(k.parts, &part{ready: s.Ready, step: s.Step})
	k.line = lineOf(k.parts)
	one, two := api.Key{Row: 1}, api.Key{Row: 2}
	both := []api.Key{one, two}
	b.Post([]api.Tx{{Proc: 1, Args: []int64{10}, Writes: []api.Key{one}}, {Proc: 1, Args: []int64{5}, Writes: []api.Key{two}}})
	b.Post([]api.Tx{{Args: []int64{4}, Reads: both, Writes: both}, {Args: []int64{20}, Reads: both, Writes: both}})
	s.Order(2, nil)
	return k
}

// ends looks at what is there at rest, behind 50 steps, one a worker and batch, and what the collect takes.
func (k *bank) ends(t *testing.T, workers int) {
	t.Helper()
	places(t, k.line)
	steps(t, k.line, 50+2*workers+5)
	for i, p := range k.parts {
		if p.idle > 0 {
			t.Errorf("task %d has taken %d steps in vain", i, p.idle)
		}
	}
	for row, want := range []int64{1: 6, 2: 9} {
		v, _ := k.st.Look(k.st.Newest(api.Key{Row: int64(row)}))
		if row > 0 && v.Cell != (api.Cell{Is: true, Value: want}) {
			t.Errorf("at %d there stands %v, not %d", row, v.Cell, want)
		}
	}
	if k.st.Live() != 2 || k.board.Complete() != 2 {
		t.Errorf("%d versions, %d batches are complete", k.st.Live(), k.board.Complete())
	}
	o, _ := k.board.Outcome(api.Place{Batch: 2, Index: 1})
	if o.Commit || o.Code != api.FaultAbort || o.User != 1 {
		t.Errorf("the second move: %v", o)
	}
}

// 14.3 to 14.8: the tasks of the layers below come to rest in a line, whatever the picks, behind one and the same number of steps.
func TestTasksOfTheLayersBelow(t *testing.T) {
	r := rand.New(rand.NewSource(14))
	for _, workers := range []int{1, 2, 3} {
		for _, hands := range []int{1, 2, 3} {
			for range 20 {
				k := newBank(t, workers, hands)
				picks := make([]int, r.Intn(80))
				for i := range picks {
					picks[i] = anyPick(r)
				}
				n := k.line.Play(picks)
				drains(t, k.line, 1000, 55+2*workers-n)
				k.ends(t, workers)
			}
		}
	}
}
