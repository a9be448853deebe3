package engine_test

import (
	"fmt"
	"slices"
	"testing"

	"prelude/api"
	"prelude/batch"
	"prelude/engine"
)

// roomy is a list with spare room behind its end, that holds marks.
func roomy[E any](list []E, mark E) []E {
	return slices.Concat(list, slices.Repeat([]E{mark}, 8))[:len(list)]
}

// spoil writes over a list, and over the spare room behind its end.
func spoil[E any](list []E, with E) {
	list = list[:cap(list)]
	for i := range list {
		list[i] = with
	}
}

// roomyLib is a library all of whose lists have spare room.
func roomyLib() []api.Proc {
	lib := bank()
	for i := range lib {
		lib[i].Program.Code = roomy(lib[i].Program.Code, api.Instr{Op: 77, A: 7})
	}
	return roomy(lib, api.Proc{Name: "mark"})
}

// spoilLib writes over a library.
func spoilLib(lib []api.Proc) {
	for _, p := range lib {
		spoil(p.Program.Code, api.Instr{Op: api.IPush, A: 99})
	}
	spoil(lib, api.Proc{Name: "spoilt", Program: api.Program{Args: 3, Reads: 3, Writes: 3}})
}

// roomyBatch is a batch all of whose lists have spare room.
func roomyBatch(b []api.Tx) []api.Tx {
	own := slices.Clone(b)
	for i, x := range own {
		own[i].Args = roomy(x.Args, 77)
		own[i].Reads = roomy(x.Reads, api.Key{Table: 7, Row: 77})
		own[i].Writes = roomy(x.Writes, api.Key{Table: 8, Row: 88})
	}
	return roomy(own, api.Tx{Proc: 99})
}

// spoilBatch writes over a batch.
func spoilBatch(b []api.Tx) {
	for _, x := range b {
		spoil(x.Args, -99)
		spoil(x.Reads, api.Key{Table: 5, Row: 55})
		spoil(x.Writes, api.Key{Table: 6, Row: 66})
	}
	spoil(b, api.Tx{Proc: 98})
}

// roomySnapshot is a snapshot all of whose lists have spare room.
func roomySnapshot() api.Snapshot {
	s := logSnapshot()
	for i, c := range s.Chains {
		s.Chains[i].Versions = roomy(c.Versions, stamp(7, 7, value(7)))
	}
	s.Pins = roomy(s.Pins, api.Pin{Batch: 7, Count: 7})
	s.Chains = roomy(s.Chains, chain(7))
	return s
}

// spoilSnapshot writes over a snapshot.
func spoilSnapshot(s api.Snapshot) {
	for _, c := range s.Chains {
		spoil(c.Versions, stamp(99, 9, value(-99)))
	}
	spoil(s.Pins, api.Pin{Batch: 5, Count: 5})
	spoil(s.Chains, chain(99))
}

// whole is a value as text, with what lies in the spare room of its lists.
func whole(v any) string {
	switch x := v.(type) {
	case []api.Proc:
		text := ""
		for _, p := range x[:cap(x)] {
			text += fmt.Sprintln(p, p.Program.Code[:cap(p.Program.Code)])
		}
		return text
	case []api.Tx:
		text := ""
		for _, b := range x[:cap(x)] {
			text += fmt.Sprintln(b, b.Args[:cap(b.Args)], b.Reads[:cap(b.Reads)], b.Writes[:cap(b.Writes)])
		}
		return text
	case api.Snapshot:
		text := fmt.Sprintln(x.Latest, x.Pins[:cap(x.Pins)])
		for _, c := range x.Chains[:cap(x.Chains)] {
			text += fmt.Sprintln(c.Key, c.Versions[:cap(c.Versions)])
		}
		return text
	case []byte:
		return fmt.Sprint(x[:cap(x)])
	}
	return fmt.Sprint(v)
}

// several is batches that do several things.
func several() [][]api.Tx {
	return [][]api.Tx{
		{put(10, 1), put(5, 2), bump(1), show(1, 2)},
		{move(4, 1, 2), move(20, 1, 2), {Proc: procSwap, Reads: rows(1, 3), Writes: rows(1, 3)}},
		{keep(2, 3), drop(2), show(2, 3), rest()},
	}
}

// ends is all that a database tells at rest behind these batches, by its clients' calls.
func ends(e *engine.Engine) string {
	text := ""
	for n := e.View().Floor + 1; n <= e.View().Latest; n++ {
		for i := range api.MaxTxs {
			o, f := e.Outcome(n, i)
			if f != api.OK {
				break
			}
			text += fmt.Sprintln(n, i, o)
		}
	}
	e.Drain()
	return text + told(e) + fmt.Sprint(e.Snapshot())
}

// R4: a library that is handed in is not changed and not kept.
func TestLeavesLibrary(t *testing.T) {
	for _, of := range []func(lib []api.Proc) (*engine.Engine, api.Errno){
		func(lib []api.Proc) (*engine.Engine, api.Errno) { return engine.New(one(), lib, 100) },
		func(lib []api.Proc) (*engine.Engine, api.Errno) {
			return engine.Restore(one(), lib, 100, logSnapshot())
		},
	} {
		want := ""
		for _, spoilt := range []bool{false, true} {
			lib := roomyLib()
			before := whole(lib)
			e, f := of(lib)
			if f != api.OK {
				t.Fatal(f)
			}
			if spoilt {
				spoilLib(lib)
			}
			for _, b := range several() {
				data, _ := batch.Encode(b)
				if _, err := e.Submit(data); err != nil {
					t.Fatal(err)
				}
				if _, err := e.Post(b); err != nil {
					t.Fatal(err)
				}
			}
			n, err := e.Post([]api.Tx{{Proc: len(bank())}})
			txError(t, n, err, 0, api.ErrProc)
			got := ends(e)
			if spoilt && got != want {
				t.Errorf("with a library that was changed later:\n%s\nnot\n%s", got, want)
			}
			if !spoilt && whole(lib) != before {
				t.Errorf("the library was %s, and is %s", before, whole(lib))
			}
			want = got
		}
	}
}

// R4: a batch, and bytes, that are handed in are not changed and not kept, let in or not (by the end there is no room).
func TestLeavesBatch(t *testing.T) {
	want := ""
	for _, spoilt := range []bool{false, true} {
		e := open(t, one(), 16)
		for _, b := range slices.Concat(several(), several()) {
			list, bad := roomyBatch(b), roomyBatch(append(slices.Clone(b), api.Tx{Proc: -1}))
			data, _ := batch.Encode(b)
			data = roomy(data, 77)
			before := whole(list) + whole(bad) + whole(data)
			e.Post(list)
			e.Post(bad)
			e.Submit(data)
			if after := whole(list) + whole(bad) + whole(data); after != before {
				t.Errorf("it was %s, and is %s", before, after)
			}
			if spoilt {
				spoilBatch(list)
				spoilBatch(bad)
				spoil(data, 9)
			}
		}
		got := ends(e)
		if spoilt && got != want {
			t.Errorf("with batches that were changed later:\n%s\nnot\n%s", got, want)
		}
		want = got
	}
}

// R4: a snapshot that is handed in is not changed and not kept.
func TestLeavesSnapshot(t *testing.T) {
	s := roomySnapshot()
	before := whole(s)
	e := restored(t, one(), 100, s)
	if got := whole(s); got != before {
		t.Errorf("it was %s, and is %s", before, got)
	}
	want := ends(restored(t, one(), 100, logSnapshot()))
	spoilSnapshot(s)
	if got := ends(e); got != want {
		t.Errorf("with a snapshot that was changed later:\n%s\nnot\n%s", got, want)
	}
	bad := roomySnapshot()
	bad.Latest = 3
	before = whole(bad)
	noRestore(t, 100, bad, api.ErrImage)
	if got := whole(bad); got != before {
		t.Errorf("it was %s, and is %s", before, got)
	}
}

// spoilAnswers asks for all that has lists, and writes over them.
func spoilAnswers(e *engine.Engine) {
	spoil(e.Ready(), 99)
	spoil(e.View().Pins, api.Pin{Batch: 99, Count: 9})
	for h := range 3 {
		spoil(e.Stack(h), place(99, 9))
	}
	for _, k := range few() {
		spoil(e.Versions(k), api.Version{Batch: 99, Filled: true, Cell: value(99)})
	}
	for n := 1; n <= e.View().Latest; n++ {
		for i := range 4 {
			note, _ := e.Note(place(n, i))
			spoilBatch([]api.Tx{note.Tx})
			spoil(note.Reads, 99)
			spoil(note.Before, 98)
			spoil(note.Own, 97)
		}
	}
}

// R4: what is handed out is new memory.
func TestNewMemory(t *testing.T) {
	for _, l := range layouts()[:2] {
		e, twin := log(t, l), log(t, l)
		for steps := 0; e.Step(steps) >= 0; steps++ {
			twin.Step(steps)
			spoilAnswers(e)
			if got, want := told(e), told(twin); got != want {
				t.Fatalf("behind %d steps: %s\nnot\n%s", steps, got, want)
			}
		}
		for n := 5; n <= 8; n++ {
			for i := range 4 {
				o, _ := e.Outcome(n, i)
				spoil(o.Out, 99)
				spoil(o.Read, value(99))
			}
		}
		for _, n := range []int{2, 6} {
			list, _ := e.Scan(n, few()[0], few()[len(few())-1])
			spoil(list, api.Row{Value: 99})
		}
		spoilSnapshot(e.Snapshot())
		twin.Snapshot()
		if got, want := ends(e), ends(twin); got != want {
			t.Errorf("%s\nnot\n%s", got, want)
		}
	}
}

// R4: no two lists of one answer share memory, and none grows into another one.
func TestListsApart(t *testing.T) {
	e := log(t, one())
	s := e.Snapshot()
	want := logSnapshot()
	for i := range s.Chains {
		before := slices.Clone(s.Chains[i].Versions)
		spoil(append(s.Chains[i].Versions, stamp(1, 1, value(1))), stamp(99, 9, value(99)))
		spoil(s.Chains[i].Versions, stamp(99, 9, value(99)))
		for j := range s.Chains {
			if j > i && fmt.Sprint(s.Chains[j]) != fmt.Sprint(want.Chains[j]) {
				t.Fatalf("%v has spoilt %v", before, s.Chains[j])
			}
		}
	}
}

// R6: two databases know nothing of one another.
func TestTwoDatabases(t *testing.T) {
	a, b := first(t, one(), 8), first(t, one(), 8)
	unchanged(t, a, "another database", func() {
		b.Pin(1)
		b.Collect()
		b.Drain()
		posts(t, b, 3, put(3, 3))
		b.Snapshot()
	})
	s := b.Snapshot()
	r := restored(t, one(), 8, s)
	unchanged(t, b, "a restored database", func() {
		posts(t, r, 4, put(4, 4))
		r.Unpin(1)
		r.Snapshot()
	})
}
