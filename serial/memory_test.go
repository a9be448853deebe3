package serial_test

import (
	"slices"
	"testing"

	"prelude/api"
	"prelude/serial"
)

// madeOf is a database of a library, with these batches run.
func madeOf(t *testing.T, lib []api.Proc, batches ...[]api.Tx) *serial.DB {
	t.Helper()
	d, e := serial.New(lib)
	if d == nil || e != api.OK {
		t.Fatalf("New: %v, %d", d, e)
	}
	for _, b := range batches {
		ran(t, d, b...)
	}
	return d
}

// roomy is a list with spare room behind its end, that holds marks.
func roomy[E any](list []E, mark E) []E {
	return slices.Concat(list, slices.Repeat([]E{mark}, 8))[:len(list)]
}

// marked is a batch all of whose lists have spare room behind their ends.
func marked(b []api.Tx) []api.Tx {
	var own []api.Tx
	for _, tx := range b {
		tx.Args = roomy(tx.Args, 77)
		tx.Reads = roomy(tx.Reads, api.Key{Table: 7, Row: 77})
		tx.Writes = roomy(tx.Writes, api.Key{Table: 8, Row: 88})
		own = append(own, tx)
	}
	return roomy(own, api.Tx{Proc: 99})
}

// whole is a batch with what lies in the spare room of its lists, in memory of its own.
func whole(b []api.Tx) []api.Tx {
	own := slices.Clone(b[:cap(b)])
	for i, tx := range own {
		own[i].Args = slices.Clone(tx.Args[:cap(tx.Args)])
		own[i].Reads = slices.Clone(tx.Reads[:cap(tx.Reads)])
		own[i].Writes = slices.Clone(tx.Writes[:cap(tx.Writes)])
	}
	return own
}

// sameTxs tells whether two batches are the same.
func sameTxs(a, b []api.Tx) bool {
	return slices.EqualFunc(a, b, func(x, y api.Tx) bool {
		return x.Proc == y.Proc && slices.Equal(x.Args, y.Args) && slices.Equal(x.Reads, y.Reads) && slices.Equal(x.Writes, y.Writes)
	})
}

// spoil writes over a list, and over the spare room behind its end.
func spoil[E any](list []E, with E) {
	list = list[:cap(list)]
	for i := range list {
		list[i] = with
	}
}

// spoilOutcome writes over an outcome's lists.
func spoilOutcome(o api.Outcome) {
	spoil(o.Out, -99)
	spoil(o.Read, api.Cell{Is: true, Value: -99})
}

// several is a batch that reads, writes, tells and fails.
func several() []api.Tx {
	return []api.Tx{put(10, 1), put(5, 2), bump(1), show(1, 2), move(4, 1, 2), late(3, 1, 1, 1, 2), show(1, 2), bump(2)}
}

// R4: a batch that is handed in is not changed, whether it is let in or not, and not kept.
func TestLeavesBatch(t *testing.T) {
	want := told(t, made(t, several(), several()))
	d := made(t)
	for range 2 {
		b := marked(several())
		before := whole(b)
		ran(t, d, b...)
		if !sameTxs(whole(b), before) {
			t.Errorf("%v became %v", before, whole(b))
		}
		for _, tx := range b {
			spoil(tx.Args, -1)
			spoil(tx.Reads, api.Key{Row: 77})
			spoil(tx.Writes, api.Key{Row: 77})
		}
		spoil(b, api.Tx{Proc: -1})
	}
	bad := marked(append(several(), move(1, 2, 1)))
	before := whole(bad)
	refuses(t, d, bad, 8, api.ErrSet)
	if !sameTxs(whole(bad), before) {
		t.Errorf("%v became %v", before, whole(bad))
	}
	if got := told(t, d); got != want {
		t.Errorf("what was handed in was kept: %s, not %s", got, want)
	}
}

// 8.1, R4: a library is taken as it is at the call, and left as it is.
func TestLeavesLibrary(t *testing.T) {
	want := told(t, made(t, several(), several()))
	lib := roomy(bank(t), api.Proc{Name: "mark"})
	for i := range lib {
		lib[i].Program.Code = roomy(lib[i].Program.Code, api.Instr{Op: -7})
	}
	d := madeOf(t, lib, several())
	for i, p := range bank(t) {
		if lib[i].Name != p.Name || !slices.Equal(lib[i].Program.Code, p.Program.Code) || lib[i].Program.Code[:cap(lib[i].Program.Code)][len(p.Program.Code)].Op != -7 {
			t.Errorf("%v became %v", p, lib[i])
		}
	}
	if lib[:cap(lib)][len(lib)].Name != "mark" {
		t.Error("what lies behind the library was changed")
	}
	for _, p := range lib {
		spoil(p.Program.Code, api.Instr{Op: api.IStop})
	}
	spoil(lib, api.Proc{Name: "none"})
	ran(t, d, several()...)
	if got := told(t, d); got != want {
		t.Errorf("the library was kept: %s, not %s", got, want)
	}
}

// 8.7, R4: what is answered is new memory each time.
func TestNewMemory(t *testing.T) {
	d := made(t)
	for n := 1; n < 4; n++ {
		o := ran(t, d, several()...)
		want := told(t, d)
		for _, x := range o {
			spoilOutcome(x)
		}
		spoil(o, api.Outcome{Code: 99})
		for i := range several() {
			x, _ := d.Outcome(n, i)
			spoilOutcome(x)
		}
		for m := range n + 1 {
			rows, _ := d.Rows(m)
			spoil(rows, api.Row{Value: -99})
		}
		if got := told(t, d); got != want {
			t.Errorf("an answer is the database's own memory: %s, not %s", got, want)
		}
	}
}

// R4: an answer stays as it was told, whatever is run later; and no two lists of one answer share memory.
func TestAnswersApart(t *testing.T) {
	d := made(t)
	first, again := ran(t, d, several()...), ran(t, made(t), several()...)
	rows, _ := d.Rows(1)
	one, _ := d.Outcome(1, 3)
	for range 5 {
		ran(t, d, several()...)
		ran(t, d, call(pDrop, 1), call(pDrop, 2))
	}
	if !same(first, again) || !sameOutcome(one, again[3]) || !slices.Equal(rows, []api.Row{row(1, 7), row(2, 10)}) {
		t.Errorf("an answer has changed: %v, %v, %v", first, one, rows)
	}
	for i := range first {
		o := ran(t, made(t), several()...)
		spoil(o[i].Out, -99)
		o[i].Out = again[i].Out
		if !same(o, again) {
			t.Errorf("the outputs of %d share memory: %v", i, o)
		}
		o = ran(t, made(t), several()...)
		spoil(o[i].Read, is(-99))
		o[i].Read = again[i].Read
		if !same(o, again) {
			t.Errorf("the reads of %d share memory: %v", i, o)
		}
	}
}

// R6: two databases of one library know nothing of one another.
func TestTwoDatabases(t *testing.T) {
	lib := bank(t)
	a, b := madeOf(t, lib), madeOf(t, lib)
	ran(t, a, several()...)
	if b.Latest() != 0 {
		t.Errorf("Latest() = %d", b.Latest())
	}
	does(t, b, []api.Tx{show(1, 2)}, commits([]int64{0, 0, 0, 0}, api.Cell{}, api.Cell{}))
	ran(t, b, put(99, 1))
	stands(t, a, 1, row(1, 7), row(2, 10))
	stands(t, b, 2, row(1, 99))
	at(t, a, 2, api.Key{Row: 1}, api.Cell{}, api.ErrBatch)
}
