package serial_test

import (
	"fmt"
	"math"
	"slices"
	"testing"

	"prelude/api"
)

// 8.2: each transaction runs on what the one ahead of it has left, in the same batch too.
func TestOneBehindTheOther(t *testing.T) {
	d := made(t)
	does(t, d, []api.Tx{show(1, 2), put(3, 1), show(1, 2), bump(1), bump(1), put(0, 2), show(1, 2), call(pDrop, 1), show(1, 2), bump(1)},
		commits([]int64{0, 0, 0, 0}, api.Cell{}, api.Cell{}),
		commits(nil),
		commits([]int64{1, 3, 0, 0}, is(3), api.Cell{}),
		commits([]int64{3, 1}, is(3)),
		commits([]int64{4, 1}, is(4)),
		commits(nil),
		commits([]int64{1, 5, 1, 0}, is(5), is(0)), // a 0 is a value
		commits(nil),
		commits([]int64{0, 0, 1, 0}, api.Cell{}, is(0)),
		commits([]int64{0, 0}, api.Cell{}))
	stands(t, d, 1, row(1, 1), row(2, 0))
	steps(t, d, 1, 8+2+8+8+8+2+8+1+8+8, api.OK)
}

// 8.2: the three things that a program can do to a write, at keys with a value and without.
func TestSetGoneKept(t *testing.T) {
	d := made(t, []api.Tx{put(10, 1), put(20, 2), put(30, 3)})
	mix := func(v int64, rows ...int64) []api.Tx {
		return []api.Tx{{Proc: pMix, Args: []int64{v}, Writes: keysOf(rows...)}}
	}
	does(t, d, mix(7, 1, 2, 3), commits(nil))
	stands(t, d, 2, row(1, 7), row(3, 30))
	does(t, d, mix(8, 2, 3, 4), commits(nil))
	stands(t, d, 3, row(1, 7), row(2, 8))
	does(t, d, mix(9, 4, 5, 6), commits(nil))
	stands(t, d, 4, row(1, 7), row(2, 8), row(4, 9))
	does(t, d, []api.Tx{call(pKeep, 1), call(pKeep, 5), call(pDrop, 6)}, commits(nil), commits(nil), commits(nil))
	stands(t, d, 5, row(1, 7), row(2, 8), row(4, 9))
	steps(t, d, 5, 1, api.OK)
	at(t, d, 5, api.Key{Row: 3}, api.Cell{}, api.OK)
	at(t, d, 2, api.Key{Row: 3}, is(30), api.OK)
}

// 8.2: the values at the edges stand as they are, and the Puts are laid by their places.
func TestValues(t *testing.T) {
	d := made(t)
	for i, v := range []int64{math.MinInt64, -1, 0, 1, math.MaxInt64} {
		does(t, d, []api.Tx{put(v, 1)}, commits(nil))
		stands(t, d, i+1, row(1, v))
		does(t, made(t, []api.Tx{put(v, 1)}), []api.Tx{show(1, 2)}, commits([]int64{1, v, 0, 0}, is(v), api.Cell{}))
	}
	swap := api.Tx{Proc: pSwap, Reads: keysOf(1, 2), Writes: keysOf(1, 2)}
	d = made(t, []api.Tx{put(10, 1)})
	does(t, d, []api.Tx{swap}, commits(nil, is(10), api.Cell{}))
	stands(t, d, 2, row(2, 10))
	does(t, d, []api.Tx{put(20, 1), swap}, commits(nil), commits(nil, is(20), is(10)))
	stands(t, d, 3, row(1, 10), row(2, 20))
	// What is read and what is written are sets of their own: the places of the keys in them may differ.
	apart := api.Tx{Proc: pSwap, Reads: keysOf(1, 2), Writes: keysOf(2, 3)}
	does(t, d, []api.Tx{apart}, commits(nil, is(10), is(20)))
	stands(t, d, 4, row(1, 10), row(2, 20), row(3, 10))
}

// 8.6, 8.8: a transaction that fails, by whatever it is, has read what it has read, tells its fault and nothing else, and leaves every key as it was.
func TestFaults(t *testing.T) {
	outs := api.Program{Reads: 1, Writes: 1, Code: []api.Instr{{Op: api.IPush, A: 3}, {Op: api.IPut}}}
	for range 17 {
		outs.Code = append(outs.Code, api.Instr{Op: api.IPush, A: 5}, api.Instr{Op: api.IOut})
	}
	lib := append(bank(t), api.Proc{Name: "outs", Program: outs})
	pick := func(i int64) api.Tx {
		return api.Tx{Proc: pPick, Args: []int64{i}, Reads: keysOf(1), Writes: keysOf(1)}
	}
	shift := func(by int64) api.Tx { return api.Tx{Proc: pShift, Args: []int64{by}, Writes: keysOf(1)} }
	for _, c := range []struct {
		tx    api.Tx
		want  api.Outcome
		steps int
	}{
		{late(77, 1, 1, 1, 2), fails(api.FaultAbort, 77, is(10)), 11},
		{late(math.MinInt64, 1, 2, 2, 3), fails(api.FaultAbort, math.MinInt64, is(5)), 11},
		{late(0, 1, 3, 2, 3), fails(api.FaultAbort, 0, api.Cell{}), 11},
		{late(77, 0, 1, 1, 2), fails(api.FaultDivide, 0, is(10)), 8},
		{shift(-1), fails(api.FaultShift, 0), 3},
		{pick(1), fails(api.FaultIndex, 0, is(10)), 2},
		{pick(-1), fails(api.FaultIndex, 0, is(10)), 2},
		{api.Tx{Proc: len(lib) - 1, Reads: keysOf(2), Writes: keysOf(1)}, fails(api.FaultOut, 0, is(5)), 36},
		{move(12, 1, 2), fails(api.FaultAbort, 1, is(10), is(5)), 6},
		{move(1, 3, 4), fails(api.FaultAbort, 1, api.Cell{}, api.Cell{}), 6},
	} {
		d := madeOf(t, lib, []api.Tx{put(10, 1), put(5, 2)})
		does(t, d, []api.Tx{c.tx}, c.want)
		stands(t, d, 2, row(1, 10), row(2, 5))
		steps(t, d, 2, c.steps, api.OK)
		// The ones behind it in the batch go on as if it had not been there.
		does(t, d, []api.Tx{put(11, 1), c.tx, show(1, 2)}, commits(nil), reread(c.tx, c.want), commits([]int64{1, 11, 1, 5}, is(11), is(5)))
		stands(t, d, 3, row(1, 11), row(2, 5))
		steps(t, d, 3, 2+c.steps+8, api.OK)
	}
}

// reread is the outcome of a transaction of TestFaults, when 11 stands at row 1.
func reread(tx api.Tx, o api.Outcome) api.Outcome {
	o.Read = slices.Clone(o.Read)
	for i, k := range tx.Reads {
		if k.Row == 1 {
			o.Read[i] = is(11)
		}
	}
	return o
}

// 8.2, 8.6: sixteen outputs are told, in their order.
func TestOutputs(t *testing.T) {
	p := api.Program{}
	var want []int64
	for i := range int64(16) {
		p.Code = append(p.Code, api.Instr{Op: api.IPush, A: i * i}, api.Instr{Op: api.IOut})
		want = append(want, i*i)
	}
	d := madeOf(t, []api.Proc{{Name: "outs", Program: p}})
	does(t, d, []api.Tx{{}, {}}, commits(want), commits(want))
	steps(t, d, 1, 64, api.OK)
}

// 8.2: as many args, reads and writes as may be, each in its place.
func TestWidest(t *testing.T) {
	p := api.Program{Args: 16, Reads: 16, Writes: 16}
	for i := range int64(16) {
		p.Code = append(p.Code, api.Instr{Op: api.IGet, A: i}, api.Instr{Op: api.IArg, A: 15 - i}, api.Instr{Op: api.IAdd}, api.Instr{Op: api.IPut, A: i})
	}
	d := madeOf(t, []api.Proc{{Name: "wide", Program: p}})
	tx := api.Tx{}
	var none, all []api.Cell
	var rows, later []api.Row
	for i := range int64(16) {
		tx.Args = append(tx.Args, 100*i)
		tx.Reads = append(tx.Reads, api.Key{Table: int(i) * 3, Row: -i})
		tx.Writes = tx.Reads
		none, all = append(none, api.Cell{}), append(all, is(1500-100*i))
		rows = append(rows, api.Row{Key: tx.Reads[i], Value: 1500 - 100*i})
		later = append(later, api.Row{Key: tx.Reads[i], Value: 3000 - 200*i})
	}
	does(t, d, []api.Tx{tx}, commits(nil, none...))
	stands(t, d, 1, rows...)
	does(t, d, []api.Tx{tx}, commits(nil, all...))
	stands(t, d, 2, later...)
	stands(t, d, 1, rows...)
	steps(t, d, 2, 64, api.OK)
}

// 8.7: one key in many batches: each batch tells what stood behind it, whether the key was touched, given the same value again, taken out, or brought back within one batch.
func TestForEver(t *testing.T) {
	d := made(t)
	batches := [][]api.Tx{
		{put(1, 1)},
		{put(1, 1)},
		nil,
		{call(pDrop, 1)},
		{call(pDrop, 1)},
		{put(2, 1), call(pDrop, 1)},
		{put(3, 1), put(4, 1), put(5, 1)},
		{call(pDrop, 1), put(5, 1)},
		{put(6, 1), put(5, 1)},
		{put(7, 2)},
		{call(pDrop, 1), put(6, 1), call(pDrop, 1)},
		{put(8, 2), call(pDrop, 2), late(1, 1, 1, 1, 2)},
		{put(0, 1)},
	}
	want := [][]api.Row{
		nil, {row(1, 1)}, {row(1, 1)}, {row(1, 1)}, nil, nil, nil, {row(1, 5)}, {row(1, 5)}, {row(1, 5)}, {row(1, 5), row(2, 7)}, {row(2, 7)}, nil, {row(1, 0)},
	}
	var lines []string
	for n := range want {
		if n > 0 {
			ran(t, d, batches[n-1]...)
		}
		lines = append(lines, toldOf(t, d, n))
		for m, line := range lines {
			stands(t, d, m, want[m]...)
			if now := toldOf(t, d, m); now != line {
				t.Errorf("behind batch %d: %s, not %s", n, now, line)
			}
			for r := range int64(4) {
				at(t, d, m, api.Key{Row: r}, standing(want[m], r), api.OK)
			}
		}
	}
}

// standing is the cell that stands at a row of table 0.
func standing(rows []api.Row, r int64) api.Cell {
	for _, x := range rows {
		if x.Key == (api.Key{Row: r}) {
			return is(x.Value)
		}
	}
	return api.Cell{}
}

// 8.4: keys of other tables with the same row are others.
func TestTables(t *testing.T) {
	d := made(t)
	for _, table := range []int{0, 1, 65535} {
		k := api.Key{Table: table, Row: 5}
		at(t, d, d.Latest(), k, api.Cell{}, api.OK)
		ran(t, d, api.Tx{Proc: pPut, Args: []int64{int64(table)}, Writes: []api.Key{k}})
		at(t, d, d.Latest(), k, is(int64(table)), api.OK)
		at(t, d, d.Latest(), api.Key{Table: table, Row: -5}, api.Cell{}, api.OK)
	}
	want := "[{{0 5} 0} {{1 5} 1} {{65535 5} 65535}]"
	if rows, _ := d.Rows(3); fmt.Sprint(rows) != want {
		t.Errorf("%v, not %s", rows, want)
	}
}
