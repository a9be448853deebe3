package engine

import (
	"testing"

	"prelude/api"
)

// counter is a library of one procedure, that counts a key up.
func counter() []api.Proc {
	return []api.Proc{{Name: "count", Program: api.Program{Reads: 1, Writes: 1, Code: []api.Instr{
		{Op: api.IGet}, {Op: api.IPush, A: 1}, {Op: api.IAdd}, {Op: api.IPut},
	}}}}
}

// 15.3: the outcomes that are told no more are not kept: those of complete batches from the collect on, the others from the step on that makes them complete.
func TestNothingKept(t *testing.T) {
	e, _ := New(api.Layout{Workers: 2, Hands: 2, Parts: 4, Ahead: 3}, counter(), 100)
	k := []api.Key{{Row: 1}}
	for n := 1; n <= 200; n++ {
		if n%3 == 0 {
			e.Post(nil)
		} else {
			e.Post([]api.Tx{{Reads: k, Writes: k}, {Reads: k, Writes: k}})
		}
		for range n % 23 {
			e.Step(n * n)
			known(t, e)
		}
		if n%10 == 0 {
			e.Collect()
		}
		known(t, e)
	}
	e.Pin(0)
	e.Collect()
	for e.Step(1) >= 0 {
		known(t, e)
	}
	if e.board.Complete() != 200 || Knows(e, 200) {
		t.Errorf("Complete %d", e.board.Complete())
	}
}

// known looks that no batch is known whose outcomes can't be told, and whose transactions are done.
func known(t *testing.T, e *Engine) {
	t.Helper()
	for n := 1; n <= e.door.Latest(); n++ {
		if want := n > e.door.Floor() || n > e.board.Complete(); Knows(e, n) != want {
			t.Fatalf("batch %d is known: %v (the floor is %d, Complete %d)", n, Knows(e, n), e.door.Floor(), e.board.Complete())
		}
	}
}

// 15.1: the parts are no larger than the layout and the capacity say.
func TestSizes(t *testing.T) {
	for _, s := range []api.Snapshot{{}, {Latest: 3, Chains: []api.Chain{{Key: api.Key{Row: 1}, Versions: []api.Stamp{{Batch: 2}}}}}} {
		e, _ := Restore(api.Layout{Workers: 3, Hands: 2, Parts: 5, Ahead: 2}, counter(), 8, s)
		if e.store.Parts() != 5 || e.store.Room()+e.store.Live() != 8 || e.door.Capacity() != 8 {
			t.Errorf("%d partitions, %d versions and room for %d", e.store.Parts(), e.store.Live(), e.store.Room())
		}
		for range 4 {
			e.Post([]api.Tx{{Reads: []api.Key{{Row: 2}}, Writes: []api.Key{{Row: 3}}}})
		}
		if e.board.Ready(3) || !e.board.Ready(2) {
			t.Error("another number of workers")
		}
		for e.board.Step(0) || e.board.Step(1) || e.board.Step(2) {
		}
		if laid := e.board.Laid() - e.board.Complete(); laid != 2 {
			t.Errorf("%d batches are ahead", laid)
		}
		if e.hands.Ready(2) || !e.hands.Ready(1) {
			t.Error("another number of hands")
		}
	}
}

// 15.2: the door keeps no code: the hands have it.
func TestCodeKeptOnce(t *testing.T) {
	e, _ := New(api.Layout{Workers: 1, Hands: 1, Parts: 1, Ahead: 1}, counter(), 8)
	for _, p := range e.forms {
		if p.Program.Code != nil {
			t.Errorf("the door keeps the code of %s", p.Name)
		}
	}
}
