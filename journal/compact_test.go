package journal_test

import (
	"bytes"
	"fmt"
	"math"
	"testing"

	"prelude/api"
	"prelude/codec"
	"prelude/journal"
)

// 17.3: behind a Compact the journal is the head with the capacity, the library and the snapshot that the engine takes.
func TestCompact(t *testing.T) {
	for _, l := range layouts() {
		for k := range len(some()) + 1 {
			d, e := written(t, l, 12, some()[:k]...), played(t, one(), 12, some()[:k]...)
			d.Compact()
			if want := codec.Seal(head, headLoad(12, bank(), e.Snapshot())); !bytes.Equal(d.Bytes(), want) {
				t.Fatalf("behind %d operations:\n%v\nnot\n%v", k, d.Bytes(), want)
			}
			scans(t, d.Bytes(), 1)
			if v := d.View(); v.Complete != v.Latest || v.Floor != v.Latest || v.Live != v.Charge || len(d.Ready()) != 0 {
				t.Errorf("behind %d operations: %v", k, v)
			}
		}
	}
}

// 17.3: a Compact of a database without batches changes nothing that is written down.
func TestCompactOfNothing(t *testing.T) {
	for _, lib := range [][]api.Proc{nil, bank(), greatest()} {
		d, _ := journal.Create(one(), lib, 300)
		before := d.Bytes()
		d.Compact()
		if !bytes.Equal(d.Bytes(), before) {
			t.Errorf("%v, not %v", d.Bytes(), before)
		}
		if again := opened(t, one(), before); !bytes.Equal(again.Bytes(), before) {
			t.Errorf("%v, not %v", again.Bytes(), before)
		}
	}
}

// 17.3: the journal goes on behind a Compact, and a second one begins it anew.
func TestCompactAgain(t *testing.T) {
	d := created(t, one(), 12)
	records := 1
	for i, o := range some() {
		o(d)
		records++
		scans(t, d.Bytes(), records)
		if i >= 4 && i%3 == 1 { // sooner one would raise the floor above what is pinned later
			d.Compact()
			records = 1
		}
		scans(t, d.Bytes(), records)
	}
	if v := d.View(); v.Latest != 5 || v.Floor != 5 || len(v.Pins) != 2 {
		t.Errorf("View: %v", v)
	}
}

// 17.3: every kind of cell, of number and of key is written, and is read back.
func TestCompactOfAllKinds(t *testing.T) {
	d := created(t, one(), 100)
	values := []int64{0, 1, -1, 63, 64, -64, -65, math.MaxInt64, math.MinInt64}
	for i, v := range values {
		posts(t, d, 2*i+1, api.Tx{Proc: procPut, Args: []int64{v}, Writes: []api.Key{few()[i%len(few())]}})
		fails(t, "Pin", d.Pin(2*i+1), api.OK)
		fails(t, "Pin", d.Pin(2*i+1), api.OK)
		posts(t, d, 2*i+2, api.Tx{Proc: procRest}, api.Tx{Proc: procDrop, Writes: []api.Key{few()[i%len(few())]}}, api.Tx{Proc: procRest})
	}
	d.Compact()
	again := opened(t, layouts()[1], d.Bytes())
	for i, v := range values {
		reads(t, again, 2*i+1, few()[i%len(few())], value(v))
		if c, f := again.Last(few()[i%len(few())]); c != (api.Cell{}) || f != api.OK {
			t.Errorf("Last: %v, %d", c, f)
		}
	}
	if s := again.Snapshot(); fmt.Sprint(s) != fmt.Sprint(d.Snapshot()) {
		t.Errorf("Snapshot: %v", s)
	}
}

// 17.3: a database of the greatest capacity, that is full, and the greatest library have room in a head.
func TestCompactOfTheGreatest(t *testing.T) {
	d, f := journal.Create(one(), greatest(), api.MaxCapacity)
	fails(t, "Create", f, api.OK)
	args := make([]int64, api.MaxArgs)
	for n := range api.MaxCapacity / (api.MaxTxs * api.MaxWrites) {
		var b []api.Tx
		for i := range int64(api.MaxTxs) {
			x := api.Tx{Args: args}
			for j := range int64(api.MaxReads) {
				k := api.Key{Table: api.MaxTable, Row: (int64(n)*api.MaxTxs+i)*api.MaxWrites + j}
				x.Reads, x.Writes = append(x.Reads, k), append(x.Writes, k)
			}
			b = append(b, x)
		}
		posts(t, d, n+1, b...)
	}
	d.Compact()
	if v := d.View(); v.Charge != api.MaxCapacity || v.Live != api.MaxCapacity {
		t.Fatalf("View: %v", v)
	}
	scans(t, d.Bytes(), 1)
	again := opened(t, layouts()[1], d.Bytes())
	if v := again.View(); v.Charge != api.MaxCapacity || v.Latest != 64 || !bytes.Equal(again.Bytes(), d.Bytes()) {
		t.Errorf("View: %v", v)
	}
	if c, f := again.Last(api.Key{Table: api.MaxTable, Row: api.MaxCapacity - 1}); c != value(math.MinInt64) || f != api.OK {
		t.Errorf("Last: %v, %d", c, f)
	}
}

// 17.8: a Compact is seen as a Collect, behind it and behind Open of what it has written.
func TestCompactIsACollect(t *testing.T) {
	for _, l := range layouts() {
		for k := range len(some()) + 1 {
			for then := range 3 {
				d, e := written(t, l, 12, some()[:k]...), played(t, one(), 12, some()[:k]...)
				d.Compact()
				e.Collect()
				for _, o := range some()[k:min(k+then, len(some()))] {
					o(d)
					o(e)
				}
				for _, other := range layouts()[:2] {
					again := opened(t, other, d.Bytes())
					want := played(t, one(), 12, some()[:k]...)
					want.Collect()
					for _, o := range some()[k:min(k+then, len(some()))] {
						o(want)
					}
					if got, want := further(again), further(want); got != want {
						t.Fatalf("opened behind %d operations and a Compact:\n%s\nnot\n%s", k, got, want)
					}
				}
				if got, want := further(d), further(e); got != want {
					t.Fatalf("behind %d operations and a Compact:\n%s\nnot\n%s", k, got, want)
				}
			}
		}
	}
}
