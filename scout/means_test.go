package scout_test

import (
	"testing"

	"prelude/api"
	"prelude/lang"
	"prelude/scout"
	"prelude/serial"
	"prelude/vm"
)

// effect is what a program does.
func effect(t *testing.T, p api.Program, args []int64, reads []api.Cell) api.Effect {
	t.Helper()
	x, f := vm.Run(p, args, reads)
	if f != api.OK {
		t.Fatal(f)
	}
	return x
}

// looked asks for what a guarded program does: the same as the bare one, if all guards hold.
func looked(t *testing.T, m *maker, p, q api.Program, n int) {
	t.Helper()
	var args []int64
	var reads []api.Cell
	for range n + p.Args {
		args = append(args, int64(m.Intn(4)-1))
	}
	for i := range n + p.Reads {
		c := api.Cell{Is: !m.rarely(4), Value: int64(m.Intn(4) - 1)}
		if i < n {
			c = api.Cell{Is: true, Value: args[i]}
		}
		if !c.Is {
			c.Value = 0
		}
		reads = append(reads, c)
	}
	want := effect(t, p, args[n:], reads[n:])
	if n > 0 {
		want.Steps += 6*n + 1
	}
	same(t, "all hold", effect(t, q, args, reads), want)
	// Nothing, or another value, at one of the guards; and a nothing where the arg is 0 is not a 0.
	for i := range n {
		was := reads[i]
		arg := args[i]
		none := api.Effect{Code: api.FaultAbort, User: api.Foretold, Puts: make([]api.Put, p.Writes)}
		args[i], reads[i] = 0, api.Cell{}
		none.Steps = 6*i + 4
		same(t, "nothing", effect(t, q, args, reads), none)
		args[i], reads[i] = arg, api.Cell{Is: true, Value: was.Value + one[int64](m, 1, -1, 1<<40, -1<<63)}
		none.Steps = 6*i + 8
		same(t, "another value", effect(t, q, args, reads), none)
		reads[i] = was
	}
}

// 22.6: a guarded procedure does what the procedure does, if its guards hold; else nothing.
func TestGuardedDoesTheSame(t *testing.T) {
	m := newMaker(226)
	jumps, aborts := 0, 0
	for i := range 1500 {
		p := api.Proc{Name: "p", Program: m.program(1+m.Intn(40), i%7)}
		n := m.Intn(13)
		q, f := scout.Guard(p, n)
		if f != api.OK {
			t.Fatalf("%v, %d: %d", p, n, f)
		}
		if _, f := lang.Check([]api.Proc{q}); f != api.OK {
			t.Fatalf("%v is not sound: %d", q, f)
		}
		for range 6 {
			looked(t, m, p.Program, q.Program, n)
		}
		for _, in := range p.Program.Code {
			switch in.Op {
			case api.IJump, api.IZero:
				jumps++
			case api.IAbort:
				aborts++
			}
		}
	}
	if jumps < 1000 || aborts < 50 {
		t.Errorf("%d jumps, %d aborts", jumps, aborts)
	}
	for _, p := range base() {
		for n := range 13 {
			q, _ := scout.Guard(p, n)
			for range 30 {
				looked(t, m, p.Program, q.Program, n)
			}
		}
	}
}

// 22.6: guarded twice is guarded by both.
func TestGuardedTwice(t *testing.T) {
	m := newMaker(2261)
	for range 200 {
		p := api.Proc{Name: "p", Program: m.program(1+m.Intn(20), 3)}
		once, f := scout.Guard(p, 3)
		twice, g := scout.Guard(once, 2)
		if f != api.OK || g != api.OK || twice.Name != "p_g3_g2" {
			t.Fatal(f, g)
		}
		for range 6 {
			looked(t, m, once.Program, twice.Program, 2)
		}
	}
}

// alone is a log's transactions, each in a batch of its own, so that what stands ahead of each can be told; and how many are ahead of each batch.
func alone(t *testing.T, lib []api.Proc, log [][]api.Tx) (*world, []int) {
	t.Helper()
	db, _ := serial.New(lib)
	ahead := []int{0, 0}
	for _, b := range log {
		for _, tx := range b {
			if _, err := db.Apply([]api.Tx{tx}); err != nil {
				t.Fatal(err)
			}
		}
		ahead = append(ahead, db.Latest())
	}
	return &world{lib: lib, db: db}, ahead
}

// foretoldRightly asks of all wishes that are done that they have done what they would have done, had their paths been gone in their turn.
func foretoldRightly(t *testing.T, w *world, ahead []int, log [][]api.Tx, wishes []api.Wish, fates []api.Fate) int {
	t.Helper()
	guards := 0
	for i, f := range fates {
		if f.State != api.FateDone {
			continue
		}
		n := ahead[f.At.Batch] + f.At.Index
		tx := log[f.At.Batch-1][f.At.Index]
		x, e := w.find(n, wishes[i])
		if e != api.OK {
			t.Fatalf("%v can't be gone behind %d: %d", wishes[i], n, e)
		}
		guards += len(x.guards)
		for j, g := range x.guards {
			if tx.Reads[j] != g.Key || tx.Args[j] != g.Value {
				t.Fatalf("%v: the guard %v", tx, g)
			}
		}
		same(t, "reads", tx.Reads[len(x.guards):], x.reads)
		same(t, "writes", tx.Writes, x.writes)
		var cells []api.Cell
		for _, k := range x.reads {
			c, _ := w.db.At(n, k)
			cells = append(cells, c)
		}
		place := wishes[i].Proc
		if place < 0 || place >= bases() { // it was a guarded one that somebody asked for
			continue
		}
		does := effect(t, w.lib[place].Program, wishes[i].Args, cells)
		same(t, "outcome", f.Outcome, api.Outcome{Commit: does.Commit, Code: does.Code, User: does.User, Out: does.Out, Read: cells})
		for j, k := range x.writes {
			was, _ := w.db.At(n, k)
			now, _ := w.db.At(n+1, k)
			switch does.Puts[j].Kind {
			case api.Set:
				was = api.Cell{Is: true, Value: does.Puts[j].Value}
			case api.Gone:
				was = api.Cell{}
			}
			if now != was {
				t.Fatalf("%v: %v at %v, want %v", tx, now, k, was)
			}
		}
	}
	return guards
}

// goesOn asks that the first one of each batch is done.
func goesOn(t *testing.T, from, to int, fates []api.Fate) {
	t.Helper()
	first := make([]int, to+1)
	for _, f := range fates {
		if f.State == api.FateDone && f.At.Index == 0 {
			first[f.At.Batch]++
		}
	}
	for n := from + 1; n <= to; n++ {
		if first[n] != 1 {
			t.Fatalf("%d are the first one of batch %d", first[n], n)
		}
	}
}
