package exec_test

import (
	"math"
	"slices"
	"testing"

	"prelude/api"
	"prelude/store"
)

// 12.2: a hand without a stack is ready just if a transaction is posted and there: in a batch that is laid.
func TestNothingToClaim(t *testing.T) {
	w := small(t, 3).make(t)
	w.waits(t, 0, 1, 2)
	w.posts(t, []api.Tx{put(1, 1)}, nil, []api.Tx{put(2, 1), put(3, 1)})
	w.waits(t, 0, 1, 2)
	w.b.Step(0)
	w.waits(t, 0, 1, 2)
	w.b.Step(0)
	for h := range 3 {
		if !w.x.Ready(h) {
			t.Errorf("hand %d is not ready", h)
		}
	}
	w.steps(t, 2, 1)
	w.stack(t, 2, p(1, 0))
	w.waits(t, 0, 1)
	w.lays()
	w.steps(t, 1, 1)
	w.stack(t, 1, p(3, 1))
	w.steps(t, 0, 1)
	w.stack(t, 0, p(3, 0))
	w.rests()
	w.waits(t, 0, 1, 2)
	w.posts(t, nil)
	w.lays()
	w.waits(t, 0, 1, 2)
	if w.b.Complete() != 4 {
		t.Errorf("Complete: %d", w.b.Complete())
	}
}

// 12.2: Ready and Stack change nothing, wherever the hands are.
func TestAskingChangesNothing(t *testing.T) {
	quiet, asked := example(t, 3), example(t, 3)
	for i := range 200 {
		h := i * 5 / 3 % 3
		was := asked.told()
		for k := -1; k < 4; k++ {
			for range 3 {
				asked.x.Ready(k)
				asked.x.Stack(k)
			}
		}
		if is := asked.told(); is != was {
			t.Fatalf("behind %d steps asking has left %s, not %s", i, is, was)
		}
		ready := asked.x.Ready(h)
		if did := asked.x.Step(h); did != ready || quiet.x.Step(h) != did {
			t.Fatalf("Step(%d): %v, and Ready was %v", h, did, ready)
		}
		if is, want := asked.told(), quiet.told(); is != want {
			t.Fatalf("behind %d steps it is %s, not %s", i+1, is, want)
		}
	}
	if asked.b.Complete() != 2 {
		t.Errorf("Complete: %d", asked.b.Complete())
	}
}

// 12.2: of those that are posted, in the order of the log, a hand claims the one with its own number, or the last one: across batches, past empty ones and past those that are claimed or done.
func TestChoice(t *testing.T) {
	log := [][]api.Tx{{put(1, 1), put(1, 2), put(1, 3)}, nil, {put(1, 4), put(1, 5)}, {put(1, 6)}, {put(1, 7)}}
	order := []api.Place{p(1, 0), p(1, 1), p(1, 2), p(3, 0), p(3, 1), p(4, 0)} // ahead is 4: batch 5 is not laid
	for h := range 9 {
		w := laid(t, 9, log...)
		w.steps(t, h, 1)
		w.stack(t, h, order[min(h, 5)])
	}
	for h := range 9 {
		w := laid(t, 9, log...)
		w.steps(t, 1, 1) // {1, 1} is claimed
		w.steps(t, 2, 5) // {3, 0} is done
		w.stack(t, 1, p(1, 1))
		w.undone(t, p(1, 2))
		w.outcome(t, p(3, 0), api.Outcome{Commit: true})
		if h != 1 {
			w.steps(t, h, 1)
			w.stack(t, h, []api.Place{p(1, 0), p(1, 2), p(3, 1), p(4, 0)}[min(h, 3)])
		}
	}
	w := laid(t, 9, log...)
	w.steps(t, 0, 15)
	w.lays() // batch 1 is complete, and the last one is laid now
	w.b.Forget(1)
	w.steps(t, 8, 1)
	w.stack(t, 8, p(5, 0))
	w.steps(t, 8, 4)
	w.steps(t, 2, 1)
	w.stack(t, 2, p(4, 0))
	w.steps(t, 7, 1)
	w.stack(t, 7, p(3, 1))
	w.steps(t, 8, 1)
	w.stack(t, 8, p(3, 0))
	w.waits(t, 0, 1, 3, 4, 5, 6)
}

// 12.2: a batch that is posted but not laid has nothing to claim, also where a worker is at it; nor has a batch that is held.
func TestNotLaid(t *testing.T) {
	w := plan{lib: bank(t), parts: 16, capacity: 99, workers: 3, ahead: 4, hands: 2}.make(t)
	w.posts(t, []api.Tx{tx(pShow, set(1, 2), nil)})
	for k := range 3 {
		w.waits(t, 0, 1)
		for w.b.Step(k) {
		}
	}
	w.b.Hold()
	w.posts(t, []api.Tx{put(1, 1)})
	w.lays()
	w.steps(t, 1, 1)
	w.stack(t, 1, p(1, 0))
	w.waits(t, 0)
	w.b.Free()
	w.lays()
	w.steps(t, 0, 1)
	w.stack(t, 0, p(2, 0))
}

// 12.2: the acts at a transaction come in their order, one a step: reads, instructions, writes, the end.
func TestActs(t *testing.T) {
	w := laid(t, 1, []api.Tx{put(10, 1), put(5, 2), move(4, 1, 2)})
	w.steps(t, 0, 10)
	w.steps(t, 0, 1+2+12)
	w.open(t, 3, 4)
	w.stack(t, 0, p(1, 2))
	w.steps(t, 0, 1)
	w.filled(t, 3, is(6))
	w.open(t, 4)
	w.steps(t, 0, 1)
	w.filled(t, 4, is(9))
	w.undone(t, p(1, 2))
	w.stack(t, 0, p(1, 2))
	w.steps(t, 0, 1)
	w.outcome(t, p(1, 2), api.Outcome{Commit: true, Read: cells(10, 5)})
	w.stack(t, 0)
	w.waits(t, 0)
}

// 12.2: reads are taken in their order, one a step, each as it is at that step.
func TestReadsInOrder(t *testing.T) {
	w := laid(t, 64, []api.Tx{put(1, 1), put(2, 2), put(3, 3), move(1, 1, 3)}, []api.Tx{tx(pShow, set(1, 2), nil)})
	w.steps(t, 63, 1) // show
	w.steps(t, 63, 1)
	w.stack(t, 63, p(2, 0), p(1, 3)) // row 1 first: the move has its newest version
	w.steps(t, 63, 1)
	w.stack(t, 63, p(2, 0), p(1, 3), p(1, 0))
	w.steps(t, 63, 4)
	w.stack(t, 63, p(2, 0), p(1, 3))
	w.steps(t, 63, 1) // it takes row 1
	w.stack(t, 63, p(2, 0), p(1, 3))
	w.steps(t, 63, 1)
	w.stack(t, 63, p(2, 0), p(1, 3), p(1, 2))
	w.steps(t, 63, 4+1+12+2+1)
	w.stack(t, 63, p(2, 0))
	w.steps(t, 63, 2)
	w.stack(t, 63, p(2, 0), p(1, 1))
	w.steps(t, 63, 4+1+8)
	w.stack(t, 63, p(2, 0))
	w.steps(t, 63, 1)
	w.outcome(t, p(2, 0), api.Outcome{Commit: true, Out: []int64{1, 0, 1, 2}, Read: cells(0, 2)})
	w.waits(t, 63)
}

// 12.2: a write that is set or gone wants nothing, and is filled at once, though what stood there is not; one that is kept wants it.
func TestKeptIsWanted(t *testing.T) {
	w := laid(t, 64, []api.Tx{put(1, 1), put(2, 2), put(3, 3), {Proc: pMix, Args: []int64{7}, Writes: set(1, 2, 3)}})
	w.steps(t, 63, 1+3)
	w.stack(t, 63, p(1, 3))
	w.steps(t, 63, 2)
	w.filled(t, 4, is(7))
	w.filled(t, 5, api.Cell{})
	w.open(t, 1, 2, 3, 6)
	w.steps(t, 63, 1)
	w.stack(t, 63, p(1, 3), p(1, 2))
	w.open(t, 6)
	w.steps(t, 63, 4)
	w.stack(t, 63, p(1, 3))
	w.open(t, 6)
	w.steps(t, 63, 1)
	w.filled(t, 6, is(3))
	w.steps(t, 63, 1)
	w.outcome(t, p(1, 3), api.Outcome{Commit: true})
	w.undone(t, p(1, 0), p(1, 1))
}

// 12.2: a hand that keeps what another hand has to fill waits for it.
func TestKeptIsWaitedFor(t *testing.T) {
	for _, last := range []api.Tx{keep(1), {Proc: pLate, Args: []int64{3, 1}, Reads: set(9), Writes: set(1, 2)}, {Proc: 60, Writes: set(1)}} {
		w := laid(t, 2, []api.Tx{put(4, 1), last})
		w.steps(t, 0, 1)
		for w.x.Step(1) {
		}
		w.stack(t, 1, p(1, 1))
		w.open(t, 1, 2)
		w.waits(t, 1)
		w.steps(t, 0, 2)
		w.waits(t, 1)
		w.steps(t, 0, 1)
		w.steps(t, 1, 1)
		w.filled(t, 2, is(4))
		w.undone(t, p(1, 0))
		w.rests()
		if w.b.Complete() != 1 {
			t.Errorf("%v is not done", last)
		}
	}
}

// 12.2: where nothing stood ahead, a read takes nothing, and a write that is kept has nothing.
func TestNothingAhead(t *testing.T) {
	w := laid(t, 1, []api.Tx{bump(1), keep(2), tx(pDrop, nil, set(1)), tx(pShow, set(1, 3), nil), keep(1), tx(pShow, set(1, 2), nil)})
	w.rests()
	w.outcome(t, p(1, 0), api.Outcome{Commit: true, Out: []int64{0, 0}, Read: make([]api.Cell, 1)})
	none := api.Outcome{Commit: true, Out: make([]int64, 4), Read: make([]api.Cell, 2)}
	w.outcome(t, p(1, 3), none)
	w.outcome(t, p(1, 5), none)
	w.filled(t, 1, is(1))
	for v := 2; v <= 4; v++ {
		w.filled(t, v, api.Cell{})
	}
}

// 12.2: what stood in the store when the board began is read and kept as it is.
func TestBehindABatch(t *testing.T) {
	st, _ := store.New(1, 20)
	st.Insert(at(1), 3, 63)
	st.Fill(1, is(40))
	st.Insert(at(1), 7, 0)
	st.Fill(2, is(50))
	st.Insert(at(2), 2, 1)
	st.Fill(3, api.Cell{})
	l := small(t, 2)
	l.latest = 7
	w := l.over(t, st)
	w.waits(t, 0, 1)
	w.posts(t, []api.Tx{tx(pShow, set(1, 2), nil), keep(1), keep(2), bump(1)})
	w.lays()
	w.steps(t, 0, 1)
	w.stack(t, 0, p(8, 0))
	w.rests()
	w.outcome(t, p(8, 0), api.Outcome{Commit: true, Out: []int64{1, 50, 0, 0}, Read: []api.Cell{is(50), {}}})
	w.filled(t, 4, is(50))
	w.filled(t, 5, api.Cell{})
	w.filled(t, 6, is(51))
	w.outcome(t, p(8, 3), api.Outcome{Commit: true, Out: []int64{50, 1}, Read: cells(50)})
	w.waits(t, 0, 1)
}

// 12.2: the last numbers that batches have.
func TestLastBatches(t *testing.T) {
	l := small(t, 3)
	l.latest = api.MaxNumber - 2
	w := l.make(t)
	w.posts(t, []api.Tx{put(1, 1)}, []api.Tx{bump(1), bump(1)})
	w.lays()
	w.steps(t, 2, 2)
	w.stack(t, 2, p(api.MaxNumber, 1), p(api.MaxNumber, 0))
	w.rests()
	w.outcome(t, p(api.MaxNumber, 1), api.Outcome{Commit: true, Out: []int64{2, 1}, Read: cells(2)})
	if w.waits(t, 0, 1, 2); w.b.Complete() != api.MaxNumber {
		t.Errorf("Complete: %d", w.b.Complete())
	}
}

// 12.2: a transaction that is not sound for the library takes its reads, runs nothing, and keeps all its writes; its code is batch.Check's.
func TestUnsound(t *testing.T) {
	for _, c := range []struct {
		x    api.Tx
		want api.Errno
	}{
		{api.Tx{Proc: 14}, api.ErrProc},
		{api.Tx{Proc: 63, Args: []int64{1}, Reads: set(1, 2), Writes: set(1)}, api.ErrProc},
		{api.Tx{Proc: pPut, Writes: set(1)}, api.ErrArgs},
		{api.Tx{Proc: pRest, Args: []int64{1}, Reads: set(1), Writes: set(2)}, api.ErrArgs},
		{api.Tx{Proc: pPut, Args: []int64{1}, Reads: set(1), Writes: set(1)}, api.ErrReads},
		{api.Tx{Proc: pMove, Args: []int64{1}, Reads: set(2), Writes: set(1, 2)}, api.ErrReads},
		{api.Tx{Proc: pMove, Args: []int64{1}, Writes: set(1, 2)}, api.ErrReads},
		{api.Tx{Proc: pMove, Args: []int64{1}, Reads: set(1, 3), Writes: set(2)}, api.ErrWrites},
		{api.Tx{Proc: pPut, Args: []int64{1}, Writes: run(1, 16)}, api.ErrWrites},
		{api.Tx{Proc: pBump, Reads: set(2)}, api.ErrWrites},
	} {
		w := laid(t, 1, []api.Tx{put(10, 1), put(5, 2), c.x, tx(pShow, set(1, 2), nil)})
		w.steps(t, 0, 10)
		w.steps(t, 0, 1+len(c.x.Reads)+len(c.x.Writes))
		w.stack(t, 0, p(1, 2))
		w.undone(t, p(1, 2))
		w.steps(t, 0, 1)
		w.stack(t, 0)
		stood := map[int64]api.Cell{1: is(10), 2: is(5)}
		want := api.Outcome{Code: c.want}
		for _, k := range c.x.Reads {
			want.Read = append(want.Read, stood[k.Row])
		}
		w.outcome(t, p(1, 2), want)
		for i, k := range c.x.Writes {
			w.filled(t, 3+i, stood[k.Row])
		}
		w.rests()
		w.outcome(t, p(1, 3), api.Outcome{Commit: true, Out: []int64{1, 10, 1, 5}, Read: cells(10, 5)})
	}
}

// 12.2: one that is not sound waits for its reads and for what it keeps as others do.
func TestUnsoundWants(t *testing.T) {
	w := laid(t, 64, []api.Tx{put(1, 1), put(2, 2), {Proc: 20, Reads: set(1), Writes: set(1, 2)}})
	w.steps(t, 63, 2)
	w.stack(t, 63, p(1, 2), p(1, 0))
	w.steps(t, 63, 4+1+1+1)
	w.stack(t, 63, p(1, 2), p(1, 1))
	w.filled(t, 3, is(1))
	w.steps(t, 63, 4+1+1)
	w.outcome(t, p(1, 2), api.Outcome{Code: api.ErrProc, Read: cells(1)})
	w.filled(t, 4, is(2))
	w.waits(t, 63)
}

// 12.2: whatever a program fails by, it is told, nothing is told of its outputs, and all its writes are kept; the instruction at which it fails is a step.
func TestFaults(t *testing.T) {
	late := func(user, by int64) api.Tx {
		return api.Tx{Proc: pLate, Args: []int64{user, by}, Reads: set(3), Writes: set(1, 2)}
	}
	for _, c := range []struct {
		x     api.Tx
		steps int
		want  api.Outcome
	}{
		{late(-5, 1), 11, api.Outcome{Code: api.FaultAbort, User: -5, Read: make([]api.Cell, 1)}},
		{late(math.MinInt64, 2), 11, api.Outcome{Code: api.FaultAbort, User: math.MinInt64, Read: make([]api.Cell, 1)}},
		{late(-5, 0), 8, api.Outcome{Code: api.FaultDivide, Read: make([]api.Cell, 1)}},
		{api.Tx{Proc: pPick, Args: []int64{1}, Reads: set(2), Writes: set(1)}, 2, api.Outcome{Code: api.FaultIndex, Read: cells(5)}},
		{api.Tx{Proc: pShift, Args: []int64{-1}, Writes: set(2)}, 3, api.Outcome{Code: api.FaultShift}},
	} {
		w := laid(t, 1, []api.Tx{put(10, 1), put(5, 2), c.x})
		w.steps(t, 0, 10)
		w.steps(t, 0, 1+len(c.x.Reads)+c.steps)
		w.open(t, 3)
		w.steps(t, 0, len(c.x.Writes))
		w.undone(t, p(1, 2))
		w.steps(t, 0, 1)
		w.outcome(t, p(1, 2), c.want)
		for i, k := range c.x.Writes {
			w.filled(t, 3+i, map[int64]api.Cell{1: is(10), 2: is(5)}[k.Row])
		}
		w.waits(t, 0)
	}
}

// 12.2: more than MaxOut outputs.
func TestTooManyOutputs(t *testing.T) {
	many := api.Program{Writes: 1}
	for range api.MaxOut + 1 {
		many.Code = append(many.Code, api.Instr{Op: api.IPush, A: 6}, api.Instr{Op: api.IOut})
	}
	l := small(t, 1)
	l.lib = append(l.lib, api.Proc{Name: "most", Program: api.Program{Code: many.Code[2:]}}, api.Proc{Name: "many", Program: many})
	w := l.make(t)
	w.posts(t, []api.Tx{put(4, 1), tx(14, nil, nil), tx(15, nil, set(1))})
	w.lays()
	if n := w.rests(); n != 5+2+32+3+34 {
		t.Errorf("%d steps", n)
	}
	w.outcome(t, p(1, 1), api.Outcome{Commit: true, Out: slices.Repeat([]int64{6}, 16)})
	w.outcome(t, p(1, 2), api.Outcome{Code: api.FaultOut})
	w.filled(t, 2, is(4))
}

// 12.2, 12.6: a program without instructions is done at once; a stop is an instruction.
func TestShortPrograms(t *testing.T) {
	for _, c := range []struct {
		x     api.Tx
		steps int
	}{{tx(pRest, nil, nil), 2}, {keep(1), 3}, {tx(pHalt, nil, set(1)), 4}, {tx(pDrop, nil, set(1)), 4}, {tx(pCopy, set(1), set(2)), 6}} {
		w := laid(t, 1, []api.Tx{put(8, 1), c.x})
		w.steps(t, 0, 5)
		w.steps(t, 0, c.steps-1)
		w.undone(t, p(1, 1))
		w.steps(t, 0, 1)
		w.waits(t, 0)
		if o, e := w.b.Outcome(p(1, 1)); e != api.OK || !o.Commit {
			t.Errorf("%v: %v, %d", c.x, o, e)
		}
	}
}

// 12.3, 12.5: a stack of 64, each place ahead of the one below it, and down again.
func TestHighStack(t *testing.T) {
	w := laid(t, 64, slices.Repeat([]api.Tx{bump(1)}, 32), slices.Repeat([]api.Tx{bump(1)}, 64))
	var want []api.Place
	for i := 63; i >= 0; i-- {
		w.steps(t, 63, 1)
		want = append(want, p(1+i/32, i%32))
		w.stack(t, 63, want...)
	}
	for i := range 63 { // the first one has 1 + 8 + 1 + 1 acts left; so have the others, once what they want is there
		w.steps(t, 63, 11)
		want = want[:63-i]
		w.stack(t, 63, want...)
	}
	w.steps(t, 63, 11)
	w.stack(t, 63)
	w.outcome(t, p(2, 31), api.Outcome{Commit: true, Out: []int64{63, 1}, Read: cells(63)})
	w.steps(t, 0, 1)
	w.stack(t, 0, p(2, 32))
}
