package crew_test

import (
	"math"
	"math/rand"
	"runtime"
	"testing"

	"prelude/api"
	"prelude/keys"
)

// onProcessors does something on one processor, and on several.
func onProcessors(t *testing.T, do func(t *testing.T)) {
	t.Helper()
	defer runtime.GOMAXPROCS(runtime.GOMAXPROCS(0))
	for _, n := range []int{1, 2, 8} {
		runtime.GOMAXPROCS(n)
		do(t)
	}
}

// repeat is a transaction so many times.
func repeat(n int, x api.Tx) []api.Tx {
	var list []api.Tx
	for range n {
		list = append(list, x)
	}
	return list
}

// 16.2: a key that all count up, in as many batches as may be under way, and more of them.
func TestOneKey(t *testing.T) {
	lib := bank(t)
	var b log
	for range 40 {
		b = append(b, repeat(64, bump(7)))
	}
	onProcessors(t, func(t *testing.T) {
		for _, l := range layouts() {
			got := b.run(t, l, lib)
			if len(got.rows) != 1 || got.rows[0] != (api.Row{Key: at(7), Value: 40 * 64}) {
				t.Fatalf("%v: %v", l, got.rows)
			}
			for n, list := range got.outcomes {
				for i, o := range list {
					before := api.Cell{Is: n+i > 0, Value: int64(n*64 + i)}
					if !o.Commit || o.Read[0] != before || o.Out[0] != before.Value {
						t.Fatalf("%v: transaction %d of batch %d: %v", l, i, n+1, o)
					}
				}
			}
		}
	})
}

// 16.2: each step of a chain hangs on the one ahead of it, through another key.
func TestChainOfKeys(t *testing.T) {
	lib := bank(t)
	b := log{{put(1, 1)}}
	for n := range int64(20) {
		var list []api.Tx
		for i := range int64(60) {
			from := n*60 + i + 1
			list = append(list, tx(pCopy, set(from), set(from+1)))
		}
		b = append(b, list)
	}
	onProcessors(t, func(t *testing.T) { b.runs(t, lib, b.plain(t, lib)) })
	if rows := b.run(t, all(), lib).rows; len(rows) != 1201 || rows[1200] != (api.Row{Key: at(1201), Value: 1}) {
		t.Errorf("%d rows", len(rows))
	}
}

// 16.2: what is kept, by those that put nothing and by those that fail, is what stood there, over many of them.
func TestKept(t *testing.T) {
	lib := bank(t)
	fails := api.Tx{Proc: pLate, Args: []int64{5, 1}, Reads: set(1), Writes: set(1, 2)}
	divides := api.Tx{Proc: pLate, Args: []int64{5, 0}, Reads: set(1), Writes: set(1, 2)}
	b := log{{put(10, 1), keep(2), fails}, repeat(64, fails), repeat(64, keep(1)), repeat(64, divides), {tx(pShow, set(1, 2), nil)}}
	want := b.plain(t, lib)
	if last := want.outcomes[4][0]; last.Out[1] != 10 || last.Out[2] != 0 {
		t.Fatalf("%v", last)
	}
	onProcessors(t, func(t *testing.T) { b.runs(t, lib, want) })
}

// 16.2: what is gone is no row, and is read as nothing; it may be put again.
func TestGone(t *testing.T) {
	lib := bank(t)
	drop := func(row int64) api.Tx { return tx(pDrop, nil, set(row)) }
	mix := api.Tx{Proc: pMix, Args: []int64{4}, Writes: set(1, 2, 3)}
	b := log{{put(1, 1), put(2, 2), put(3, 3)}, {drop(1), tx(pShow, set(1, 2), nil), mix, tx(pShow, set(1, 3), nil)}, {drop(2), put(9, 3), drop(3)}}
	want := b.plain(t, lib)
	if len(want.rows) != 1 || want.rows[0] != (api.Row{Key: at(1), Value: 4}) {
		t.Fatalf("%v", want.rows)
	}
	onProcessors(t, func(t *testing.T) { b.runs(t, lib, want) })
}

// 16.2: rows come in the order of keys, whatever partitions and tables they are of.
func TestOrderOfRows(t *testing.T) {
	lib := bank(t)
	var b log
	for _, table := range []int{api.MaxTable, 0, 300} {
		for _, row := range []int64{math.MaxInt64, 0, -1, 1, math.MinInt64} {
			b = append(b, []api.Tx{{Proc: pPut, Args: []int64{row}, Writes: []api.Key{{Table: table, Row: row}}}})
		}
	}
	b.runs(t, lib, b.plain(t, lib))
	rows := b.run(t, all(), lib).rows
	for i := 1; i < len(rows); i++ {
		if keys.Compare(rows[i-1].Key, rows[i].Key) >= 0 {
			t.Errorf("%v stands ahead of %v", rows[i-1], rows[i])
		}
	}
	if len(rows) != 15 {
		t.Errorf("%d rows", len(rows))
	}
}

// 16.2: batches without transactions, and transactions without keys, between others.
func TestEmptyBetween(t *testing.T) {
	lib := bank(t)
	b := log{nil, {bump(1)}, {}, {tx(pRest, nil, nil)}, {}, {}, {bump(1), tx(pRest, nil, nil), bump(1)}, nil}
	for range 30 {
		b = append(b, nil)
	}
	onProcessors(t, func(t *testing.T) { b.runs(t, lib, b.plain(t, lib)) })
}

// anySet is so many keys, of few.
func anySet(r *rand.Rand, n, few int) []api.Key {
	var list []api.Key
	for _, i := range r.Perm(few)[:n] {
		list = append(list, api.Key{Table: i % 2, Row: int64(i - few/2)})
	}
	sorted, _ := keys.Sort(list)
	return sorted
}

// anyTx is a call of any procedure, on any of few keys.
func anyTx(r *rand.Rand, lib []api.Proc, few int) api.Tx {
	proc := r.Intn(len(lib))
	p := lib[proc].Program
	if p.Writes > few { // it is too wide
		return tx(pRest, nil, nil)
	}
	x := api.Tx{Proc: proc, Reads: anySet(r, p.Reads, few), Writes: anySet(r, p.Writes, few)}
	for range p.Args {
		x.Args = append(x.Args, int64(r.Intn(6)))
	}
	if p.Reads == p.Writes && r.Intn(2) == 0 {
		x.Writes = x.Reads
	}
	return x
}

// anyLog is any batches over few keys.
func anyLog(r *rand.Rand, lib []api.Proc, few int) log {
	var b log
	for range r.Intn(30) {
		var list []api.Tx
		for range r.Intn(1 + r.Intn(65)) {
			list = append(list, anyTx(r, lib, few))
		}
		b = append(b, list)
	}
	return b
}

// anyLayout is any layout, more often a small one.
func anyLayout(r *rand.Rand) api.Layout {
	upto := func(most int) int { return 1 + r.Intn(1+r.Intn(most)) }
	return api.Layout{Workers: upto(api.MaxWorkers), Hands: upto(api.MaxHands), Parts: upto(api.MaxParts), Ahead: upto(api.MaxAhead)}
}

// 16.2: any batches, of any layouts, on one processor and on many.
func TestAnyBatches(t *testing.T) {
	r := rand.New(rand.NewSource(16))
	lib := bank(t)
	onProcessors(t, func(t *testing.T) {
		for range 40 {
			b := anyLog(r, lib, 3+r.Intn(20))
			want := b.plain(t, lib)
			for range 4 {
				l := anyLayout(r)
				if got := b.run(t, l, lib); !got.same(want) {
					t.Fatalf("%v: %v: %v, not %v", l, b, got, want)
				}
			}
		}
	})
}

// 16.2: each run anew.
func TestEachRun(t *testing.T) {
	r := rand.New(rand.NewSource(162))
	lib := bank(t)
	b := anyLog(r, lib, 4)
	want := b.plain(t, lib)
	onProcessors(t, func(t *testing.T) {
		for range 10 {
			b.runs(t, lib, want)
		}
	})
}

// W2: a batch does the same as its transactions one by one in batches of their own.
func TestOneByOne(t *testing.T) {
	r := rand.New(rand.NewSource(8))
	lib := bank(t)
	for range 10 {
		b := anyLog(r, lib, 5)
		var single log
		var want []api.Outcome
		got := b.run(t, anyLayout(r), lib)
		for n, list := range b {
			for i, x := range list {
				single = append(single, []api.Tx{x})
				want = append(want, got.outcomes[n][i])
			}
		}
		alone := single.run(t, anyLayout(r), lib)
		for i, list := range alone.outcomes {
			if len(list) != 1 || !sameOutcome(list[0], want[i]) {
				t.Fatalf("%v, not %v", list, want[i])
			}
		}
		if !(answer{rows: alone.rows}).same(answer{rows: got.rows}) {
			t.Fatalf("%v, not %v", alone.rows, got.rows)
		}
	}
}
