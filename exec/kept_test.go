package exec

import (
	"testing"

	"prelude/api"
	"prelude/cc"
	"prelude/store"
)

// counter is a library of one procedure, that counts a key up.
func counter() []api.Proc {
	return []api.Proc{{Name: "count", Program: api.Program{Reads: 1, Writes: 1, Code: []api.Instr{
		{Op: api.IGet}, {Op: api.IPush, A: 1}, {Op: api.IAdd}, {Op: api.IPut},
	}}}}
}

// 12.3: of a transaction that is finished nothing is kept, and of a machine that is done its effect alone.
func TestNothingKept(t *testing.T) {
	st, _ := store.New(1, 100)
	b, _ := cc.New(st, 1, 1, 0)
	x, _ := New(b, st, counter(), 64)
	k := []api.Key{{Row: 1}}
	b.Post(make([]api.Tx, 20)) // these are not sound
	for range 40 {
		b.Post([]api.Tx{{Reads: k, Writes: k}, {Reads: k, Writes: k}})
	}
	for b.Complete() < b.Latest() {
		for b.Step(0) {
		}
		for x.Step(b.Complete() % 64) {
			looks(t, x.hands[b.Complete()%64])
		}
		for h := range 64 {
			looks(t, x.hands[h])
		}
	}
	for _, a := range x.hands {
		if len(a.stack) != 0 {
			t.Errorf("hand %d has %d transactions", a.number, len(a.stack))
		}
	}
}

// looks looks at what a hand keeps.
func looks(t *testing.T, a *hand) {
	t.Helper()
	for i, j := range a.stack[:cap(a.stack)] {
		if i >= len(a.stack) && j != nil {
			t.Fatalf("hand %d keeps %v", a.number, j.place)
		}
		if j != nil && j.machine != nil && j.machine.Done() {
			t.Fatalf("hand %d keeps the machine of %v", a.number, j.place)
		}
	}
}
