package journal_test

import (
	"bytes"
	"fmt"
	"math"
	"slices"
	"testing"

	"prelude/api"
	"prelude/codec"
	"prelude/engine"
	"prelude/journal"
	"prelude/keys"
	"prelude/lang"
)

// headLoad is a head's load, as the chapter's section 'The journal's bytes' says.
func headLoad(capacity int, lib []api.Proc, s api.Snapshot) []byte {
	text, f := lang.Encode(lib)
	if f != api.OK {
		panic(f)
	}
	b := slices.Concat([]byte("PRJ1"), number(capacity), number(len(text)), text)
	b = append(b, number(s.Latest)...)
	b = append(b, number(len(s.Pins))...)
	for _, p := range s.Pins {
		b = append(b, number(p.Batch)...)
		b = append(b, number(p.Count)...)
	}
	b = append(b, number(len(s.Chains))...)
	for _, c := range s.Chains {
		k, _ := keys.Bytes(c.Key)
		b = append(b, k...)
		b = append(b, number(len(c.Versions))...)
		for _, v := range c.Versions {
			b = append(b, number(v.Batch)...)
			b = append(b, number(v.Index)...)
			if v.Cell.Is {
				b = append(append(b, 1), signed(v.Cell.Value)...)
			} else {
				b = append(b, 0)
			}
		}
	}
	return b
}

// greatest is a library with as much of everything as may be.
func greatest() []api.Proc {
	var lib []api.Proc
	for i := range api.MaxProcs {
		name := string(bytes.Repeat([]byte{'n'}, api.MaxName-2)) + codec.Digits(int64(10+i))
		p := api.Program{Args: api.MaxArgs, Reads: api.MaxReads, Writes: api.MaxWrites, Locals: api.MaxLocals}
		for j := range api.MaxCode {
			if j%2 == 0 {
				p.Code = append(p.Code, api.Instr{Op: api.IPush, A: math.MinInt64})
			} else {
				p.Code = append(p.Code, api.Instr{Op: api.IPut, A: int64(j % api.MaxWrites)})
			}
		}
		lib = append(lib, api.Proc{Name: name, Program: p})
	}
	return lib
}

// 17.1: the journal of a new database is its head.
func TestCreate(t *testing.T) {
	for _, l := range layouts() {
		for _, lib := range [][]api.Proc{nil, {}, bank(), bank()[:1], greatest()} {
			for _, capacity := range []int{1, 8, 127, 128, api.MaxCapacity} {
				d, f := journal.Create(l, lib, capacity)
				if d == nil || f != api.OK {
					t.Fatalf("%v, %d: %v, %d", l, capacity, d, f)
				}
				if want := codec.Seal(head, headLoad(capacity, lib, api.Snapshot{})); !bytes.Equal(d.Bytes(), want) {
					t.Errorf("%v, %d: %v, not %v", l, capacity, d.Bytes(), want)
				}
				scans(t, d.Bytes(), 1)
				if v := d.View(); fmt.Sprint(v) != fmt.Sprint(api.View{}) {
					t.Errorf("View: %v", v)
				}
			}
		}
	}
}

// 17.1: what New refuses is refused, by the same error.
func TestCreateRefuses(t *testing.T) {
	bad := []api.Proc{{Name: "1"}}
	for _, c := range []struct {
		l        api.Layout
		lib      []api.Proc
		capacity int
		want     api.Errno
	}{
		{api.Layout{}, bad, 0, api.ErrName},
		{one(), []api.Proc{{Name: "a", Program: api.Program{Args: 17}}}, 8, api.ErrProgram},
		{one(), append(greatest(), api.Proc{Name: "a"}), 8, api.ErrProcs},
		{api.Layout{}, nil, 0, api.ErrCapacity},
		{one(), bank(), -1, api.ErrCapacity},
		{one(), bank(), api.MaxCapacity + 1, api.ErrCapacity},
		{api.Layout{}, nil, 1, api.ErrWorkers},
		{api.Layout{Workers: 65, Hands: 1, Parts: 1, Ahead: 1}, nil, 1, api.ErrWorkers},
		{api.Layout{Workers: 1}, nil, 1, api.ErrHands},
		{api.Layout{Workers: 1, Hands: 1}, nil, 1, api.ErrParts},
		{api.Layout{Workers: 1, Hands: 1, Parts: 257, Ahead: 1}, nil, 1, api.ErrParts},
		{api.Layout{Workers: 1, Hands: 1, Parts: 1}, nil, 1, api.ErrAhead},
	} {
		if d, f := journal.Create(c.l, c.lib, c.capacity); d != nil || f != c.want {
			t.Errorf("Create(%v, .., %d): %v, %d, not %d", c.l, c.capacity, d, f, c.want)
		}
		if _, f := engine.New(c.l, c.lib, c.capacity); f != c.want {
			t.Errorf("New(%v, .., %d): %d", c.l, c.capacity, f)
		}
	}
}

// 17.2: what is let in is written down.
func TestWritesDown(t *testing.T) {
	for _, l := range layouts() {
		d := created(t, l, 40)
		writes(t, d, "Post", func() { posts(t, d, 1, put(10, 1), put(5, 2)) }, codec.Seal(lot, encoded(put(10, 1), put(5, 2))))
		data := encoded(move(4, 1, 2), drop(3))
		writes(t, d, "Submit", func() {
			if n, err := d.Submit(data); n != 2 || err != nil {
				t.Errorf("Submit: %d, %v", n, err)
			}
		}, codec.Seal(lot, data))
		writes(t, d, "Post of an empty batch", func() { posts(t, d, 3) }, codec.Seal(lot, []byte{0}))
		writes(t, d, "Submit of an empty batch", func() { d.Submit([]byte{0}) }, codec.Seal(lot, []byte{0}))
		for _, n := range []int{0, 1, 4, 4} {
			writes(t, d, "Pin", func() { fails(t, "Pin", d.Pin(n), api.OK) }, codec.Seal(pin, number(n)))
		}
		for _, n := range []int{4, 0} {
			writes(t, d, "Unpin", func() { fails(t, "Unpin", d.Unpin(n), api.OK) }, codec.Seal(unpin, number(n)))
		}
		writes(t, d, "Collect", func() {
			if n := d.Collect(); n != 0 {
				t.Errorf("Collect: %d", n)
			}
		}, codec.Seal(collect, nil))
		writes(t, d, "Collect again", func() { d.Collect() }, codec.Seal(collect, nil))
		writes(t, d, "Snapshot", func() {
			if s := d.Snapshot(); s.Latest != 4 || len(s.Chains) != 3 {
				t.Errorf("Snapshot: %v", s)
			}
		}, codec.Seal(collect, nil))
	}
}

// 17.2: the numbers of batches have as many bytes as they need.
func TestWritesGreatNumbers(t *testing.T) {
	s := api.Snapshot{Latest: api.MaxNumber, Pins: []api.Pin{{Batch: 127, Count: 2}, {Batch: 128, Count: 2}}}
	d := opened(t, one(), codec.Seal(head, headLoad(8, bank(), s)))
	for _, c := range []struct {
		n    int
		load []byte
	}{{127, []byte{127}}, {128, []byte{128, 1}}, {api.MaxNumber, []byte{128, 128, 128, 128, 128, 32}}} {
		writes(t, d, "Pin", func() { fails(t, "Pin", d.Pin(c.n), api.OK) }, codec.Seal(pin, c.load))
		writes(t, d, "Unpin", func() { fails(t, "Unpin", d.Unpin(c.n), api.OK) }, codec.Seal(unpin, c.load))
	}
	writes(t, d, "Post without a number", func() {
		if n, err := d.Post(nil); n != 0 || err != error(api.ErrLast) {
			t.Errorf("Post: %d, %v", n, err)
		}
	})
	writes(t, d, "Pin of what is none", func() { fails(t, "Pin", d.Pin(api.MaxNumber+1), api.ErrBatch) })
}

// 17.2: the longest batch, too.
func TestWritesGreatBatch(t *testing.T) {
	lib := greatest()
	d, f := journal.Create(one(), lib, api.MaxCapacity)
	fails(t, "Create", f, api.OK)
	var b []api.Tx
	for i := range api.MaxTxs {
		x := api.Tx{Proc: i, Args: slices.Repeat([]int64{math.MinInt64}, api.MaxArgs)}
		for j := range int64(api.MaxReads) {
			x.Reads = append(x.Reads, api.Key{Table: api.MaxTable, Row: j})
			x.Writes = append(x.Writes, api.Key{Table: api.MaxTable, Row: math.MaxInt64 - 15 + j})
		}
		b = append(b, x)
	}
	writes(t, d, "Post", func() { posts(t, d, 1, b...) }, codec.Seal(lot, encoded(b...)))
	writes(t, d, "Submit", func() { d.Submit(encoded(b...)) }, codec.Seal(lot, encoded(b...)))
	if again := opened(t, one(), d.Bytes()); again.View().Latest != 2 || !bytes.Equal(again.Bytes(), d.Bytes()) {
		t.Errorf("View: %v", again.View())
	}
}

// 17.2: what is refused is not written down, and answered as by the engine.
func TestWritesNothingRefused(t *testing.T) {
	d := written(t, one(), 8, some()[:5]...)
	e := played(t, one(), 8, some()[:5]...)
	for _, b := range [][]api.Tx{
		{{Proc: procRest + 1}},
		{put(1, 1), {Proc: -1}},
		{{Proc: procPut, Writes: rows(1)}},
		{{Proc: procBump, Writes: rows(1)}},
		{{Proc: procDrop}},
		{{Proc: procKeep, Writes: rows(2, 1)}},
		slices.Repeat([]api.Tx{{Proc: procRest}}, api.MaxTxs+1),
		{put(1, 1), put(1, 2), put(1, 3), put(1, 4), put(1, 5), put(1, 6), put(1, 7), put(1, 8), put(1, 9)},
	} {
		writes(t, d, "Post", func() {
			n, err := d.Post(b)
			if got, want := answer(n, err), answer(e.Post(b)); got != want || n != 0 || err == nil {
				t.Errorf("Post(%v): %s, not %s", b, got, want)
			}
		})
	}
	for _, data := range [][]byte{nil, {7}, {0, 0}, {128, 0}, {65}, encoded(api.Tx{Proc: 63}), encoded(put(1, 1), drop(1), keep(1, 2), keep(2, 3), bump(3), bump(4))} {
		writes(t, d, "Submit", func() {
			n, err := d.Submit(data)
			if got, want := answer(n, err), answer(e.Submit(data)); got != want || n != 0 || err == nil {
				t.Errorf("Submit(%v): %s, not %s", data, got, want)
			}
		})
	}
	for _, n := range []int{-1, 3, 9, math.MinInt, math.MaxInt, 1 << 41} {
		writes(t, d, "Pin", func() { fails(t, "Pin", d.Pin(n), api.ErrBatch) })
		writes(t, d, "Unpin", func() { fails(t, "Unpin", d.Unpin(n), api.ErrPin) })
	}
	writes(t, d, "Unpin", func() { fails(t, "Unpin", d.Unpin(2), api.ErrPin) })
	fails(t, "Unpin", d.Unpin(0), api.OK)
	writes(t, d, "Pin", func() { fails(t, "Pin", d.Pin(0), api.ErrFloor) })
}

// 17.2: nothing but the six calls is written down, whatever they answer.
func TestWritesNothingElse(t *testing.T) {
	d := written(t, layouts()[1], 12, some()...)
	writes(t, d, "a call that only tells", func() {
		for n := -1; n < 7; n++ {
			d.Read(n, row(1))
			d.Last(row(int64(n)))
			d.Scan(n, row(1), row(3))
			d.Outcome(n, 0)
			d.Stack(n)
			d.Note(api.Place{Batch: n})
		}
		d.Read(1, api.Key{Table: -1})
		d.View()
		d.Ready()
		d.Versions(row(1))
		d.Step(0)
		d.Drain()
		d.Bytes()
	})
	posts(t, d, 6, bump(1))
	writes(t, d, "a step", func() {
		for d.Step(1) >= 0 {
		}
	})
}

// 17.2: the six calls answer as the engine's, whatever steps are taken between them.
func TestAnswersAsTheEngine(t *testing.T) {
	for _, l := range layouts() {
		for k := range some() {
			d, e := written(t, l, 12, some()[:k]...), played(t, one(), 12, some()[:k]...)
			if k%2 == 0 {
				d.Drain()
			}
			if got, want := further(d), further(e); got != want {
				t.Fatalf("%v, behind %d operations:\n%s\nnot\n%s", l, k, got, want)
			}
		}
	}
}

// 17.2: they take the steps that the engine's take, and no other.
func TestStepsAsTheEngine(t *testing.T) {
	for _, l := range layouts() {
		d, e := created(t, l, 12), played(t, l, 12)
		for i, o := range some() {
			o(d)
			o(e)
			for pick := range 5 * i {
				if a, b := d.Step(pick), e.Step(pick); a != b {
					t.Fatalf("operation %d: Step(%d): %d, not %d", i, pick, a, b)
				}
			}
			if got, want := fmt.Sprint(d.View(), d.Ready()), fmt.Sprint(e.View(), e.Ready()); got != want {
				t.Fatalf("operation %d: %s, not %s", i, got, want)
			}
		}
	}
}
