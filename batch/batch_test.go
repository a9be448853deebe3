package batch_test

import (
	"errors"
	"slices"
	"testing"

	"prelude/api"
	"prelude/batch"
)

// bank is the library of chapter 4's example.
func bank() []api.Proc {
	return []api.Proc{
		{Name: "move", Program: api.Program{Args: 1, Reads: 2, Writes: 2, Code: []api.Instr{
			{Op: api.IGet}, {Op: api.IArg}, {Op: api.ILt}, {Op: api.IZero, A: 6}, {Op: api.IPush, A: 1}, {Op: api.IAbort},
			{Op: api.IGet}, {Op: api.IArg}, {Op: api.ISub}, {Op: api.IPut},
			{Op: api.IGet, A: 1}, {Op: api.IArg}, {Op: api.IAdd}, {Op: api.IPut, A: 1}}}},
		{Name: "put", Program: api.Program{Args: 1, Writes: 1, Code: []api.Instr{{Op: api.IArg}, {Op: api.IPut}}}},
	}
}

// rows is keys of table 0.
func rows(l ...int64) []api.Key {
	var set []api.Key
	for _, r := range l {
		set = append(set, api.Key{Row: r})
	}
	return set
}

// rising is a set of so many keys.
func rising(n int) []api.Key {
	var set []api.Key
	for i := range n {
		set = append(set, api.Key{Table: i, Row: int64(-i)})
	}
	return set
}

// put is a transaction that puts a value at a row of table 0.
func put(v, row int64) api.Tx { return api.Tx{Proc: 1, Args: []int64{v}, Writes: rows(row)} }

// move is a transaction that moves an amount from row 1 to row 2.
func move(amount int64) api.Tx {
	return api.Tx{Args: []int64{amount}, Reads: rows(1, 2), Writes: rows(1, 2)}
}

// sameTx tells whether two transactions are the same; an empty list may be nil.
func sameTx(a, b api.Tx) bool {
	return a.Proc == b.Proc && slices.Equal(a.Args, b.Args) && slices.Equal(a.Reads, b.Reads) && slices.Equal(a.Writes, b.Writes)
}

// same tells whether two batches are the same.
func same(a, b []api.Tx) bool { return slices.EqualFunc(a, b, sameTx) }

// checks asks that Check answers so.
func checks(t *testing.T, lib []api.Proc, b []api.Tx, place int, want api.Errno) {
	t.Helper()
	if at, e := batch.Check(lib, b); at != place || e != want {
		t.Errorf("Check of %v is %d, %d, want %d, %d", b, at, e, place, want)
	}
}

// 6.1: the chapter's examples.
func TestCheckExamples(t *testing.T) {
	checks(t, nil, nil, 0, api.OK)
	checks(t, nil, []api.Tx{}, 0, api.OK)
	checks(t, bank(), []api.Tx{put(10, 1)}, 0, api.OK)
	checks(t, bank(), []api.Tx{put(10, 1), {Proc: 2}}, 1, api.ErrProc)
	for _, c := range []struct {
		tx   api.Tx
		want api.Errno
	}{
		{api.Tx{Proc: -1, Args: []int64{10}, Writes: rows(1)}, api.ErrProc},
		{api.Tx{Reads: rows(1, 2), Writes: rows(1, 2)}, api.ErrArgs},
		{api.Tx{Proc: 1, Args: []int64{10}, Reads: rows(1), Writes: rows(1)}, api.ErrReads},
		{api.Tx{Proc: 1, Args: []int64{10}}, api.ErrWrites},
		{api.Tx{Args: []int64{1}, Reads: rows(2, 1), Writes: rows(1, 2)}, api.ErrSet},
		{api.Tx{Proc: 1, Args: []int64{10}, Writes: []api.Key{{Table: -1}}}, api.ErrSet},
	} {
		checks(t, bank(), []api.Tx{c.tx}, 0, c.want)
	}
}

// 6.1: one past and one short of each number that the program says, and of the list.
func TestCheckNumbers(t *testing.T) {
	for _, c := range []struct {
		tx   api.Tx
		want api.Errno
	}{
		{move(3), api.OK},
		{api.Tx{Proc: 2, Args: []int64{1}, Reads: rows(1, 2), Writes: rows(1, 2)}, api.ErrProc},
		{api.Tx{Proc: 1 << 62}, api.ErrProc},
		{api.Tx{Proc: -1 << 63}, api.ErrProc},
		{api.Tx{Args: []int64{1, 2}, Reads: rows(1, 2), Writes: rows(1, 2)}, api.ErrArgs},
		{api.Tx{Args: []int64{1}, Reads: rows(1), Writes: rows(1, 2)}, api.ErrReads},
		{api.Tx{Args: []int64{1}, Reads: rows(1, 2, 3), Writes: rows(1, 2)}, api.ErrReads},
		{api.Tx{Args: []int64{1}, Reads: rows(1, 2), Writes: rows(1)}, api.ErrWrites},
		{api.Tx{Args: []int64{1}, Reads: rows(1, 2), Writes: rows(1, 2, 3)}, api.ErrWrites},
	} {
		checks(t, bank(), []api.Tx{c.tx}, 0, c.want)
	}
	checks(t, nil, []api.Tx{{}}, 0, api.ErrProc)
}

// 6.1: what is no set, in Reads and in Writes.
func TestCheckSets(t *testing.T) {
	bad := [][]api.Key{
		rows(2, 1), rows(1, 1),
		{{Table: 1, Row: 1}, {Table: 0, Row: 2}},
		{{Table: -1}, {Table: 1}},
		{{Table: 1}, {Table: api.MaxTable + 1}},
	}
	good := [][]api.Key{rows(1, 2), rows(-9, -8), {{Table: 0, Row: 9}, {Table: 1, Row: -9}}, {{}, {Table: api.MaxTable}}}
	for _, set := range bad {
		checks(t, bank(), []api.Tx{{Args: []int64{1}, Reads: set, Writes: rows(1, 2)}}, 0, api.ErrSet)
		checks(t, bank(), []api.Tx{{Args: []int64{1}, Reads: rows(1, 2), Writes: set}}, 0, api.ErrSet)
	}
	for _, set := range good {
		checks(t, bank(), []api.Tx{{Args: []int64{1}, Reads: set, Writes: set}}, 0, api.OK)
	}
}

// 6.1: of several errors of a transaction the one that is named first.
func TestCheckOrder(t *testing.T) {
	errs := []api.Errno{api.ErrProc, api.ErrArgs, api.ErrReads, api.ErrWrites, api.ErrSet}
	for faults := 1; faults < 1<<len(errs); faults++ {
		tx, want := move(1), api.OK
		for i, e := range errs {
			if faults>>i&1 == 0 {
				continue
			}
			if want == api.OK {
				want = e
			}
			switch e {
			case api.ErrProc:
				tx.Proc = -1
			case api.ErrArgs:
				tx.Args = nil
			case api.ErrReads:
				tx.Reads = rows(1, 2, 3)
			case api.ErrWrites:
				tx.Writes = rows(1, 2, 3)
			case api.ErrSet:
				tx.Reads[1], tx.Writes[1] = tx.Reads[0], tx.Writes[0]
			}
		}
		checks(t, bank(), []api.Tx{move(1), tx, {Proc: -1}}, 1, want)
	}
}

// 6.1: the first transaction with which something is wrong, at each place; and one too many.
func TestCheckPlace(t *testing.T) {
	full := slices.Repeat([]api.Tx{put(1, 1), move(2)}, api.MaxTxs/2)
	checks(t, bank(), full, 0, api.OK)
	for i := range full {
		b := slices.Clone(full)
		for j := i; j < len(b); j++ {
			b[j].Args = nil
		}
		b[i].Writes = nil
		b[i].Args = []int64{1}
		checks(t, bank(), b, i, api.ErrWrites)
	}
	checks(t, bank(), append(slices.Clone(full), put(1, 1)), 0, api.ErrTxs)
	checks(t, bank(), slices.Repeat([]api.Tx{{Proc: -1}}, api.MaxTxs+1), 0, api.ErrTxs)
	checks(t, nil, make([]api.Tx, 1000), 0, api.ErrTxs)
}

// 6.1: of a list that is no library the programs' three numbers count, and then what is well-formed.
func TestCheckAnyList(t *testing.T) {
	odd := api.Proc{Name: "9 no name", Program: api.Program{Args: 1, Locals: -5, Code: []api.Instr{{Op: 99}, {Op: api.IJump, A: -1}}}}
	checks(t, []api.Proc{odd, odd}, []api.Tx{{Proc: 1, Args: []int64{1}}}, 0, api.OK)
	for _, c := range []struct {
		p    api.Program
		tx   api.Tx
		want api.Errno
	}{
		{api.Program{Args: -1}, api.Tx{}, api.ErrArgs},
		{api.Program{Reads: -1}, api.Tx{}, api.ErrReads},
		{api.Program{Writes: -1}, api.Tx{}, api.ErrWrites},
		{api.Program{Args: 16, Reads: 16, Writes: 16}, api.Tx{Args: make([]int64, 16), Reads: rising(16), Writes: rising(16)}, api.OK},
		{api.Program{Args: 17}, api.Tx{Args: make([]int64, 17)}, api.ErrArgs},
		{api.Program{Reads: 17}, api.Tx{Reads: rising(17)}, api.ErrReads},
		{api.Program{Writes: 17}, api.Tx{Writes: rising(17)}, api.ErrWrites},
		{api.Program{Args: 17}, api.Tx{Args: make([]int64, 17), Reads: rising(1)}, api.ErrReads},
		{api.Program{Reads: 17}, api.Tx{Reads: rising(17), Writes: rising(1)}, api.ErrWrites},
		{api.Program{Args: 17, Reads: 17, Writes: 17}, api.Tx{Args: make([]int64, 17), Reads: rising(17), Writes: rising(17)}, api.ErrArgs},
		{api.Program{Reads: 17}, api.Tx{Reads: make([]api.Key, 17)}, api.ErrReads},
	} {
		checks(t, []api.Proc{{Program: c.p}}, []api.Tx{c.tx}, 0, c.want)
	}
	many := make([]api.Proc, 65)
	checks(t, many, []api.Tx{{Proc: 63}}, 0, api.OK)
	checks(t, many, []api.Tx{{}, {Proc: 64}}, 1, api.ErrProc)
	checks(t, many, []api.Tx{{Proc: 65}}, 0, api.ErrProc)
	checks(t, many, []api.Tx{{Proc: 64, Reads: rising(1)}}, 0, api.ErrReads)
}

// accepts asks that Accept takes the bytes of a batch.
func accepts(t *testing.T, lib []api.Proc, data []byte, want []api.Tx) {
	t.Helper()
	if b, err := batch.Accept(lib, data); err != nil || !same(b, want) {
		t.Errorf("Accept of %v is %v, %v, want %v", data, b, err, want)
	}
}

// byteError asks that Accept refuses bytes by an *api.ByteError around an api.Errno.
func byteError(t *testing.T, lib []api.Proc, data []byte, place int, want api.Errno) {
	t.Helper()
	b, err := batch.Accept(lib, data)
	if f, ok := err.(*api.ByteError); !ok || f.At != place || f.Err != error(want) || len(b) != 0 {
		t.Errorf("Accept of %v is %v, %v, want %d at %d", data, b, err, want, place)
	}
}

// txError asks that Accept refuses bytes by an *api.TxError around an api.Errno.
func txError(t *testing.T, lib []api.Proc, data []byte, place int, want api.Errno) {
	t.Helper()
	b, err := batch.Accept(lib, data)
	if f, ok := err.(*api.TxError); !ok || f.Index != place || f.Err != error(want) || !errors.Is(err, want) || len(b) != 0 {
		t.Errorf("Accept of %v is %v, %v, want %d of transaction %d", data, b, err, want, place)
	}
}

// 6.4: the chapter's examples, what Decode refuses ahead of what Check refuses, and a batch that is sound for one list and not for another.
func TestAccept(t *testing.T) {
	example := []byte{1, 1, 1, 20, 0, 1, 0, 0, 128, 0, 0, 0, 0, 0, 0, 1}
	accepts(t, bank(), example, []api.Tx{put(10, 1)})
	txError(t, bank(), []byte{1, 2, 0, 0, 0}, 0, api.ErrProc)
	byteError(t, bank(), []byte{7}, 1, api.ErrShort)

	accepts(t, nil, []byte{0}, nil)
	byteError(t, nil, nil, 0, api.ErrShort)
	byteError(t, bank(), []byte{65}, 0, api.ErrBig)
	byteError(t, bank(), append(example, 0), 16, api.ErrForm)
	byteError(t, bank(), []byte{2, 2, 0, 0, 0, 64, 0, 0, 0}, 5, api.ErrBig)
	txError(t, nil, example, 0, api.ErrProc)
	txError(t, bank()[:1], example, 0, api.ErrProc)
	txError(t, bank()[1:], example, 0, api.ErrProc)
	txError(t, bank(), []byte{1, 1, 0, 0, 0}, 0, api.ErrArgs)
	accepts(t, make([]api.Proc, 64), []byte{1, 63, 0, 0, 0}, []api.Tx{{Proc: 63}})
}

// 6.4: Accept is Decode and then Check, at every place.
func TestAcceptPlaces(t *testing.T) {
	full := slices.Repeat([]api.Tx{put(1, 1), move(2)}, api.MaxTxs/2)
	for i := range full {
		b := slices.Clone(full)
		b[i].Reads = rows(1)
		data, e := batch.Encode(b)
		if e != api.OK {
			t.Fatal(e)
		}
		txError(t, bank(), data, i, api.ErrReads)
		byteError(t, bank(), append(data, 1), len(data), api.ErrForm)
	}
}

// 6.5: the chapter's example, the empty batch, and batches that are not sound.
func TestWeightAndWrites(t *testing.T) {
	for _, c := range []struct {
		b    []api.Tx
		want int
	}{
		{nil, 0},
		{[]api.Tx{{}}, 0},
		{[]api.Tx{put(10, 1), put(5, 2)}, 2},
		{[]api.Tx{move(4), move(20)}, 4},
		{[]api.Tx{{Args: make([]int64, 9), Reads: rising(5)}, put(1, 1)}, 1},
		{[]api.Tx{{Proc: -1, Writes: rows(2, 1, 1)}, {Proc: 99, Writes: []api.Key{{Table: -1}}}}, 4},
		{slices.Repeat([]api.Tx{{Writes: make([]api.Key, 100)}}, 300), 30000},
	} {
		if n := batch.Weight(c.b); n != c.want {
			t.Errorf("Weight of %v is %d, want %d", c.b, n, c.want)
		}
		sets := batch.Writes(c.b)
		if !slices.EqualFunc(sets, c.b, func(set []api.Key, tx api.Tx) bool { return slices.Equal(set, tx.Writes) }) {
			t.Errorf("Writes of %v is %v", c.b, sets)
		}
	}
	sets := batch.Writes([]api.Tx{put(10, 1), put(5, 2)})
	if len(sets) != 2 || !slices.Equal(sets[0], rows(1)) || !slices.Equal(sets[1], rows(2)) {
		t.Errorf("%v", sets)
	}
}
