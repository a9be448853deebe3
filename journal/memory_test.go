package journal_test

import (
	"bytes"
	"fmt"
	"slices"
	"testing"

	"prelude/api"
	"prelude/codec"
	"prelude/journal"
)

// roomy is a list with spare room behind its end, that holds marks.
func roomy[E any](list []E, mark E) []E {
	return slices.Concat(list, slices.Repeat([]E{mark}, 8))[:len(list)]
}

// spoil writes over a list, and over the spare room behind its end.
func spoil[E any](list []E, with E) {
	list = list[:cap(list)]
	for i := range list {
		list[i] = with
	}
}

// all is a list with what lies in its spare room, as text.
func all[E any](list []E) string { return fmt.Sprint(list, list[:cap(list)]) }

// roomyLib is a library all of whose lists have spare room.
func roomyLib() []api.Proc {
	lib := bank()
	for i := range lib {
		lib[i].Program.Code = roomy(lib[i].Program.Code, api.Instr{Op: 77, A: 7})
	}
	return roomy(lib, api.Proc{Name: "mark"})
}

// roomyBatch is a batch all of whose lists have spare room.
func roomyBatch(b ...api.Tx) []api.Tx {
	own := slices.Clone(b)
	for i, x := range own {
		own[i].Args = roomy(x.Args, 77)
		own[i].Reads = roomy(x.Reads, api.Key{Table: 7, Row: 77})
		own[i].Writes = roomy(x.Writes, api.Key{Table: 8, Row: 88})
	}
	return roomy(own, api.Tx{Proc: 99})
}

// R4: a library is not changed and not kept.
func TestLibraryIsNotKept(t *testing.T) {
	lib := roomyLib()
	before := all(lib) + all(lib[0].Program.Code)
	d, f := journal.Create(one(), lib, 12)
	fails(t, "Create", f, api.OK)
	if all(lib)+all(lib[0].Program.Code) != before {
		t.Error("Create has changed the library")
	}
	for _, p := range lib {
		spoil(p.Program.Code, api.Instr{Op: api.IPush, A: 99})
	}
	spoil(lib, api.Proc{Name: "spoilt"})
	want := written(t, one(), 12, some()...)
	for _, o := range some() {
		o(d)
	}
	d.Compact()
	want.Compact()
	if !bytes.Equal(d.Bytes(), want.Bytes()) || further(d) != further(want) {
		t.Error("the library was kept")
	}
}

// R4: a batch, and a batch's bytes, are not changed and not kept.
func TestBatchIsNotKept(t *testing.T) {
	d, want := created(t, one(), 12), written(t, one(), 12, posting(put(10, 1), bump(1)), posting(move(1, 1, 2), drop(3)))
	b := roomyBatch(put(10, 1), bump(1))
	before := all(b) + all(b[0].Args) + all(b[0].Writes) + all(b[1].Reads)
	posts(t, d, 1, b...)
	if all(b)+all(b[0].Args)+all(b[0].Writes)+all(b[1].Reads) != before {
		t.Error("Post has changed the batch")
	}
	for _, x := range b {
		spoil(x.Args, -99)
		spoil(x.Reads, api.Key{Table: 5, Row: 55})
		spoil(x.Writes, api.Key{Table: 6, Row: 66})
	}
	spoil(b, api.Tx{Proc: 98})
	data := roomy(encoded(move(1, 1, 2), drop(3)), 7)
	text := all(data)
	d.Submit(data)
	if all(data) != text {
		t.Error("Submit has changed the bytes")
	}
	spoil(data, 99)
	if !bytes.Equal(d.Bytes(), want.Bytes()) || further(d) != further(want) {
		t.Error("a batch was kept")
	}
}

// R4: a journal that is opened or scanned is not changed and not kept, not even what was torn.
func TestJournalIsNotKept(t *testing.T) {
	whole := written(t, one(), 12, some()...).Bytes()
	for _, torn := range [][]byte{nil, {1, 2, 3}} {
		data := roomy(slices.Concat(whole, torn), 7)
		text := all(data)
		d := opened(t, one(), data)
		journal.Scan(data)
		if all(data) != text {
			t.Error("the journal was changed")
		}
		d.Collect()
		if all(data) != text {
			t.Error("a further record was written into the journal that was opened")
		}
		want := opened(t, one(), whole)
		want.Collect()
		spoil(data, 99)
		if !bytes.Equal(d.Bytes(), want.Bytes()) {
			t.Error("the journal was kept")
		}
		d.Compact()
		want.Compact()
		if !bytes.Equal(d.Bytes(), want.Bytes()) || further(d) != further(want) {
			t.Error("the journal was kept")
		}
	}
}

// R4: what Bytes answers is new memory, its spare room too.
func TestBytesAreNew(t *testing.T) {
	d := created(t, one(), 12)
	for _, o := range some() {
		was := d.Bytes()
		a, b := d.Bytes(), d.Bytes()
		spoil(a, 99)
		if !bytes.Equal(b, was) || !bytes.Equal(d.Bytes(), was) {
			t.Fatal("two answers share memory")
		}
		o(d)
		if now := d.Bytes(); !bytes.Equal(now[:len(was)], was) {
			t.Fatal("an answer shares the journal's memory")
		}
		c := d.Bytes()
		text := all(c)
		d.Collect()
		if all(c) != text {
			t.Fatal("a record was written into an answer")
		}
		d = opened(t, one(), c)
	}
	d.Compact()
	was := d.Bytes()
	spoil(d.Bytes(), 99)
	if !bytes.Equal(d.Bytes(), was) {
		t.Error("the head is shared")
	}
}

// R4: a snapshot that was answered is not what the head is made of later.
func TestSnapshotIsNew(t *testing.T) {
	d, want := written(t, one(), 12, some()...), written(t, one(), 12, some()...)
	s := d.Snapshot()
	want.Snapshot()
	for _, c := range s.Chains {
		spoil(c.Versions, api.Stamp{Batch: 99, Index: 9, Cell: value(-99)})
	}
	spoil(s.Pins, api.Pin{Batch: 7, Count: 7})
	spoil(s.Chains, api.Chain{Key: row(99)})
	d.Compact()
	want.Compact()
	if !bytes.Equal(d.Bytes(), want.Bytes()) || further(d) != further(want) {
		t.Error("a snapshot is shared")
	}
}

// R6: two databases of one journal know nothing of one another.
func TestTwoOfOneJournal(t *testing.T) {
	data := written(t, one(), 12, some()...).Bytes()
	a, b, c := opened(t, one(), data), opened(t, one(), data), opened(t, layouts()[1], data)
	want := further(c)
	posts(t, a, 6, put(99, 1))
	a.Compact()
	a.Collect()
	if !bytes.Equal(b.Bytes(), data) || further(b) != want {
		t.Error("they share something")
	}
	if _, _, _, f := codec.Unseal(a.Bytes(), 0); f != api.OK {
		t.Error("no record")
	}
}
