package serial_test

import (
	"errors"
	"fmt"
	"math"
	"slices"
	"strings"
	"testing"

	"prelude/api"
	"prelude/asm"
	"prelude/lang"
	"prelude/serial"
)

// bankText is chapter 4's example, and behind it a procedure for each thing that a transaction can do.
const bankText = `
proc move args 1 reads 2 writes 2 locals 0
  get 0
  arg 0
  lt
  zero go
  push 1
  abort
go:
  get 0
  arg 0
  sub
  put 0
  get 1
  arg 0
  add
  put 1
end
proc put args 1 reads 0 writes 1 locals 0
  arg 0
  put 0
end
proc drop args 0 reads 0 writes 1 locals 0
  del 0
end
proc keep args 0 reads 0 writes 1 locals 0
end
proc mix args 1 reads 0 writes 3 locals 0 # the first one gets the arg, the second one nothing, the third one stays
  arg 0
  put 0
  del 1
end
proc show args 0 reads 2 writes 0 locals 0
  has 0
  out
  get 0
  out
  has 1
  out
  get 1
  out
end
proc bump args 0 reads 1 writes 1 locals 0 # what it tells behind its puts is what it has read
  get 0
  push 1
  add
  put 0
  get 0
  out
  has 0
  out
end
proc late args 2 reads 1 writes 2 locals 0 # it has put and told, when it fails by a division by its second arg, or else by its first one
  push 8
  put 0
  del 1
  push 9
  out
  push 1
  arg 1
  div
  pop
  arg 0
  abort
end
proc pick args 1 reads 1 writes 1 locals 0
  arg 0
  getx
  put 0
end
proc shift args 1 reads 0 writes 1 locals 0
  push 1
  arg 0
  shl
  put 0
end
proc swap args 0 reads 2 writes 2 locals 0 # nothing too
  del 0
  del 1
  has 1
  zero one
  get 1
  put 0
one:
  has 0
  zero two
  get 0
  put 1
two:
end
`

// The places of these procedures.
const (
	pMove = iota
	pPut
	pDrop
	pKeep
	pMix
	pShow
	pBump
	pLate
	pPick
	pShift
	pSwap
)

// bank is the library of that text.
func bank(t *testing.T) []api.Proc {
	t.Helper()
	lib, err := asm.Assemble(bankText)
	if err != nil {
		t.Fatal(err)
	}
	return lib
}

// made is a database of the bank's library, with these batches run.
func made(t *testing.T, batches ...[]api.Tx) *serial.DB {
	t.Helper()
	d, e := serial.New(bank(t))
	if d == nil || e != api.OK {
		t.Fatalf("New: %v, %d", d, e)
	}
	for _, b := range batches {
		ran(t, d, b...)
	}
	return d
}

// ran is the outcomes of one more batch.
func ran(t *testing.T, d *serial.DB, b ...api.Tx) []api.Outcome {
	t.Helper()
	n := d.Latest()
	o, err := d.Apply(b)
	if err != nil || len(o) != len(b) || d.Latest() != n+1 {
		t.Fatalf("Apply(%v) behind batch %d: %v, %v; Latest() = %d", b, n, o, err, d.Latest())
	}
	return o
}

// keysOf is keys of table 0.
func keysOf(l ...int64) []api.Key {
	var set []api.Key
	for _, r := range l {
		set = append(set, api.Key{Row: r})
	}
	return set
}

// call is a transaction without args and reads, but for those that are put in.
func call(proc int, writes ...int64) api.Tx { return api.Tx{Proc: proc, Writes: keysOf(writes...)} }

// put is a transaction that puts a value at a row of table 0.
func put(v, row int64) api.Tx {
	return api.Tx{Proc: pPut, Args: []int64{v}, Writes: keysOf(row)}
}

// move is a transaction that moves an amount from one row to a greater one.
func move(amount, from, to int64) api.Tx {
	return api.Tx{Args: []int64{amount}, Reads: keysOf(from, to), Writes: keysOf(from, to)}
}

// show is a transaction that tells what stands at two rows.
func show(a, b int64) api.Tx { return api.Tx{Proc: pShow, Reads: keysOf(a, b)} }

// bump is a transaction that adds 1 to a row.
func bump(row int64) api.Tx { return api.Tx{Proc: pBump, Reads: keysOf(row), Writes: keysOf(row)} }

// late is a transaction that fails when it has put already.
func late(user, by, read, a, b int64) api.Tx {
	return api.Tx{Proc: pLate, Args: []int64{user, by}, Reads: keysOf(read), Writes: keysOf(a, b)}
}

// is is a cell with a value.
func is(v int64) api.Cell { return api.Cell{Is: true, Value: v} }

// row is a row of table 0.
func row(r, v int64) api.Row { return api.Row{Key: api.Key{Row: r}, Value: v} }

// commits is the outcome of a transaction that commits.
func commits(out []int64, read ...api.Cell) api.Outcome {
	return api.Outcome{Commit: true, Out: out, Read: read}
}

// fails is the outcome of one that does not.
func fails(code api.Errno, user int64, read ...api.Cell) api.Outcome {
	return api.Outcome{Code: code, User: user, Read: read}
}

// sameOutcome tells whether two outcomes are the same; an empty list may be nil.
func sameOutcome(a, b api.Outcome) bool {
	return a.Commit == b.Commit && a.Code == b.Code && a.User == b.User && slices.Equal(a.Out, b.Out) && slices.Equal(a.Read, b.Read)
}

// same tells whether two lists of outcomes are.
func same(a, b []api.Outcome) bool { return slices.EqualFunc(a, b, sameOutcome) }

// does asks that one more batch has these outcomes, as Apply and as Outcome tell them.
func does(t *testing.T, d *serial.DB, b []api.Tx, want ...api.Outcome) {
	t.Helper()
	if o := ran(t, d, b...); !same(o, want) {
		t.Errorf("Apply(%v): %v, not %v", b, o, want)
	}
	for i, w := range want {
		if o, e := d.Outcome(d.Latest(), i); !sameOutcome(o, w) || e != api.OK {
			t.Errorf("Outcome(%d, %d): %v, %d, not %v", d.Latest(), i, o, e, w)
		}
	}
}

// stands asks that just these rows stand behind a batch, as Rows and as At tell them.
func stands(t *testing.T, d *serial.DB, n int, want ...api.Row) {
	t.Helper()
	if l, e := d.Rows(n); !slices.Equal(l, want) || e != api.OK {
		t.Errorf("Rows(%d): %v, %d, not %v", n, l, e, want)
	}
	for _, r := range want {
		at(t, d, n, r.Key, is(r.Value), api.OK)
	}
}

// at asks that At answers so.
func at(t *testing.T, d *serial.DB, n int, k api.Key, want api.Cell, code api.Errno) {
	t.Helper()
	if c, e := d.At(n, k); c != want || e != code {
		t.Errorf("At(%d, %v): %v, %d, not %v, %d", n, k, c, e, want, code)
	}
}

// steps asks that Steps answers so.
func steps(t *testing.T, d *serial.DB, n int, want int, code api.Errno) {
	t.Helper()
	if s, e := d.Steps(n); s != want || e != code {
		t.Errorf("Steps(%d): %d, %d, not %d, %d", n, s, e, want, code)
	}
}

// refuses asks that a batch is refused for a transaction, and that all that is told stays.
func refuses(t *testing.T, d *serial.DB, b []api.Tx, place int, want api.Errno) {
	t.Helper()
	before := told(t, d)
	o, err := d.Apply(b)
	var x *api.TxError
	if len(o) != 0 || !errors.As(err, &x) || err != error(x) || x.Index != place || x.Err != error(want) {
		t.Errorf("Apply(%v): %v, %v, not %d at %d", b, o, err, want, place)
	}
	if after := told(t, d); after != before {
		t.Errorf("Apply(%v) has changed something: %s became %s", b, before, after)
	}
}

// toldOf is all that a database tells of one batch, as a line.
func toldOf(t *testing.T, d *serial.DB, n int) string {
	t.Helper()
	rows, e := d.Rows(n)
	if e != api.OK {
		t.Fatalf("Rows(%d): %d", n, e)
	}
	line := fmt.Sprint(n, " rows ", rows)
	if n == 0 {
		return line
	}
	s, e := d.Steps(n)
	line += fmt.Sprint(" steps ", s, e)
	for i := 0; ; i++ {
		o, e := d.Outcome(n, i)
		if e != api.OK {
			return line
		}
		line += fmt.Sprint(" ", o)
	}
}

// told is all that a database tells, a line a batch.
func told(t *testing.T, d *serial.DB) string {
	t.Helper()
	var lines []string
	for n := range d.Latest() + 1 {
		lines = append(lines, toldOf(t, d, n))
	}
	return strings.Join(lines, "\n")
}

// Examples 1 to 4, and what is told of the batches ahead, all the way.
func TestExamples(t *testing.T) {
	d := made(t)
	does(t, d, []api.Tx{put(10, 1), put(5, 2)}, commits(nil), commits(nil))
	if d.Latest() != 1 {
		t.Errorf("Latest() = %d", d.Latest())
	}
	stands(t, d, 1, row(1, 10), row(2, 5))
	stands(t, d, 0)
	none := api.Key{Table: -1}
	at(t, d, 1, api.Key{Row: 3}, api.Cell{}, api.OK)
	at(t, d, 0, api.Key{Row: 1}, api.Cell{}, api.OK)
	at(t, d, 2, api.Key{Row: 1}, api.Cell{}, api.ErrBatch)
	at(t, d, 1, none, api.Cell{}, api.ErrKey)
	at(t, d, -1, none, api.Cell{}, api.ErrBatch)

	does(t, d, []api.Tx{move(4, 1, 2), move(20, 1, 2)}, commits(nil, is(10), is(5)), fails(api.FaultAbort, 1, is(6), is(9)))
	stands(t, d, 2, row(1, 6), row(2, 9))
	stands(t, d, 1, row(1, 10), row(2, 5))
	steps(t, d, 1, 4, api.OK)
	steps(t, d, 2, 18, api.OK)

	refuses(t, d, []api.Tx{put(1, 1), {Proc: 99}}, 1, api.ErrProc)
	if d.Latest() != 2 {
		t.Errorf("Latest() = %d", d.Latest())
	}

	does(t, d, nil)
	if d.Latest() != 3 {
		t.Errorf("Latest() = %d", d.Latest())
	}
	stands(t, d, 3, row(1, 6), row(2, 9))
	steps(t, d, 3, 0, api.OK)
	for _, c := range []struct {
		n, i int
		want api.Errno
	}{{3, 0, api.ErrIndex}, {4, 0, api.ErrBatch}, {0, 0, api.ErrBatch}, {2, -1, api.ErrIndex}} {
		if o, e := d.Outcome(c.n, c.i); !sameOutcome(o, api.Outcome{}) || e != c.want {
			t.Errorf("Outcome(%d, %d): %v, %d, not %d", c.n, c.i, o, e, c.want)
		}
	}
}

// Example 3 with the library of chapter 4 alone: procedure 2 is none of it.
func TestProcBehindTheLast(t *testing.T) {
	d, e := serial.New(bank(t)[:2])
	if e != api.OK {
		t.Fatal(e)
	}
	refuses(t, d, []api.Tx{put(1, 1), {Proc: 2}}, 1, api.ErrProc)
	ran(t, d, put(1, 1))
}

// 8.1: what is no library makes no database, and the error is that of lang.Check.
func TestNewRefuses(t *testing.T) {
	sound := bank(t)[pPut]
	named := func(n int) []api.Proc {
		var lib []api.Proc
		for i := range n {
			lib = append(lib, api.Proc{Name: fmt.Sprint("p", i), Program: sound.Program})
		}
		return lib
	}
	of := func(p api.Program) []api.Proc { return []api.Proc{sound, {Name: "p", Program: p}} }
	for _, c := range []struct {
		lib  []api.Proc
		want api.Errno
	}{
		{named(65), api.ErrProcs},
		{[]api.Proc{{Name: "1"}}, api.ErrName},
		{[]api.Proc{{}}, api.ErrName},
		{[]api.Proc{sound, sound}, api.ErrName},
		{of(api.Program{Args: 17}), api.ErrProgram},
		{of(api.Program{Code: make([]api.Instr, 257)}), api.ErrProgram},
		{of(api.Program{Code: []api.Instr{{Op: api.NumOps}}}), api.ErrOp},
		{of(api.Program{Code: []api.Instr{{Op: api.IPut}}}), api.ErrArg},
		{of(api.Program{Code: []api.Instr{{Op: api.IJump}}}), api.ErrJump},
		{of(api.Program{Code: []api.Instr{{Op: api.IAdd}}}), api.ErrStack},
		// The first one with which something is wrong counts.
		{[]api.Proc{{Name: "a", Program: api.Program{Code: []api.Instr{{Op: -1}}}}, {Name: ""}}, api.ErrOp},
	} {
		if _, e := lang.Check(c.lib); e != c.want {
			t.Errorf("lang.Check: %d, not %d", e, c.want)
		}
		if d, e := serial.New(c.lib); d != nil || e != c.want {
			t.Errorf("New: %v, %d, not %d", d, e, c.want)
		}
	}
	for _, n := range []int{1, 63, 64} {
		d, e := serial.New(named(n))
		if d == nil || e != api.OK || d.Latest() != 0 {
			t.Fatalf("New of %d procedures: %v, %d", n, d, e)
		}
		last := api.Tx{Proc: n - 1, Args: []int64{7}, Writes: keysOf(1)}
		does(t, d, []api.Tx{last}, commits(nil))
		stands(t, d, 1, row(1, 7))
		last.Proc = n
		refuses(t, d, []api.Tx{last}, 0, api.ErrProc)
	}
}

// 8.1, 8.2: an empty library is one; it takes no transaction, but batches without any.
func TestEmptyLibrary(t *testing.T) {
	for _, lib := range [][]api.Proc{nil, {}} {
		d, e := serial.New(lib)
		if d == nil || e != api.OK || d.Latest() != 0 {
			t.Fatalf("New: %v, %d", d, e)
		}
		refuses(t, d, []api.Tx{{}}, 0, api.ErrProc)
		does(t, d, nil)
		does(t, d, []api.Tx{})
		stands(t, d, 2)
		if d.Latest() != 2 {
			t.Errorf("Latest() = %d", d.Latest())
		}
	}
}

// 8.1, 8.3: behind batch 0 there is nothing.
func TestNewDatabase(t *testing.T) {
	d := made(t)
	if d.Latest() != 0 {
		t.Errorf("Latest() = %d", d.Latest())
	}
	stands(t, d, 0)
	at(t, d, 0, api.Key{}, api.Cell{}, api.OK)
	at(t, d, 1, api.Key{}, api.Cell{}, api.ErrBatch)
	at(t, d, 0, api.Key{Table: 65536}, api.Cell{}, api.ErrKey)
	steps(t, d, 0, 0, api.ErrBatch)
	steps(t, d, 1, 0, api.ErrBatch)
}

// 8.2: a batch that is not sound is refused for its first wrong transaction, and changes nothing, whatever stands ahead of that.
func TestApplyRefuses(t *testing.T) {
	d := made(t, []api.Tx{put(10, 1), put(5, 2)}, []api.Tx{move(4, 1, 2), show(1, 3)})
	many := slices.Repeat([]api.Tx{put(9, 9)}, 64)
	for _, c := range []struct {
		tx   api.Tx
		want api.Errno
	}{
		{api.Tx{Proc: -1}, api.ErrProc},
		{api.Tx{Proc: math.MinInt}, api.ErrProc},
		{api.Tx{Proc: math.MaxInt}, api.ErrProc},
		{api.Tx{Proc: len(bank(t))}, api.ErrProc},
		{api.Tx{Proc: pPut, Writes: keysOf(1)}, api.ErrArgs},
		{api.Tx{Proc: pPut, Args: []int64{1, 2}, Writes: keysOf(1)}, api.ErrArgs},
		{api.Tx{Proc: pPut, Args: []int64{1}, Reads: keysOf(1), Writes: keysOf(1)}, api.ErrReads},
		{api.Tx{Args: []int64{1}, Reads: keysOf(1), Writes: keysOf(1, 2)}, api.ErrReads},
		{api.Tx{Proc: pPut, Args: []int64{1}}, api.ErrWrites},
		{api.Tx{Proc: pShow, Reads: keysOf(1, 2), Writes: keysOf(1)}, api.ErrWrites},
		{move(1, 2, 1), api.ErrSet},
		{move(1, 2, 2), api.ErrSet},
		{api.Tx{Proc: pPut, Args: []int64{1}, Writes: []api.Key{{Table: -1}}}, api.ErrSet},
		{api.Tx{Proc: pPut, Args: []int64{1}, Writes: []api.Key{{Table: 65536}}}, api.ErrSet},
		{api.Tx{Proc: pShow, Reads: []api.Key{{Table: 0}, {Table: 65536}}}, api.ErrSet},
	} {
		refuses(t, d, []api.Tx{c.tx}, 0, c.want)
		refuses(t, d, []api.Tx{put(9, 9), bump(1), c.tx, {Proc: -7}}, 2, c.want)
		refuses(t, d, append(slices.Clone(many[:63]), c.tx), 63, c.want)
		// Too many transactions are said ahead of what is wrong with one.
		refuses(t, d, append([]api.Tx{c.tx}, many...), 0, api.ErrTxs)
	}
	refuses(t, d, append(slices.Clone(many), put(9, 9)), 0, api.ErrTxs)
	does(t, d, many, slices.Repeat([]api.Outcome{commits(nil)}, 64)...)
	stands(t, d, 3, row(1, 6), row(2, 9), row(9, 9))
	steps(t, d, 3, 128, api.OK)
}

// 8.3: the number of the last batch, behind each one; what is refused is not counted, nor what is asked.
func TestLatest(t *testing.T) {
	d := made(t)
	for n := range 200 {
		if d.Latest() != n {
			t.Fatalf("Latest() = %d, not %d", d.Latest(), n)
		}
		d.Apply([]api.Tx{{Proc: -1}})
		d.At(n, api.Key{})
		d.Rows(n + 1)
		d.Outcome(n, 0)
		d.Steps(-1)
		ran(t, d, slices.Repeat([]api.Tx{bump(1)}, n%3)...)
	}
}

// numbers is batches' numbers around those that there are, and far off.
func numbers(latest int) []int {
	list := []int{math.MinInt, math.MinInt64 + 1, math.MinInt32, -latest, -2, math.MaxInt32, 1 << 32, 1<<32 + 1, math.MaxInt}
	for n := -1; n <= latest+2; n++ {
		list = append(list, n)
	}
	return list
}

// 8.4, 8.5, 8.6: which batches there are, and which error comes first.
func TestWhichBatch(t *testing.T) {
	d := made(t, []api.Tx{put(10, 1)}, nil, []api.Tx{put(11, 1), put(12, 2)})
	for _, n := range numbers(3) {
		is, ran := n >= 0 && n <= 3, n >= 1 && n <= 3
		if rows, e := d.Rows(n); (e == api.OK) != is || !is && (e != api.ErrBatch || len(rows) != 0) {
			t.Errorf("Rows(%d): %v, %d", n, rows, e)
		}
		if _, e := d.At(n, api.Key{Row: 1}); (e == api.OK) != is || !is && e != api.ErrBatch {
			t.Errorf("At(%d, 0:1): %d", n, e)
		}
		for _, table := range []int{math.MinInt, -1, 65536, 1 << 32, math.MaxInt} {
			want := api.ErrBatch
			if is {
				want = api.ErrKey
			}
			at(t, d, n, api.Key{Table: table, Row: 1}, api.Cell{}, want)
		}
		if s, e := d.Steps(n); (e == api.OK) != ran || !ran && (e != api.ErrBatch || s != 0) {
			t.Errorf("Steps(%d): %d, %d", n, s, e)
		}
		for _, i := range []int{math.MinInt, -1, 0, 1, 2, 1 << 32, math.MaxInt} {
			want := api.OK
			if !ran {
				want = api.ErrBatch
			} else if i < 0 || i >= []int{1, 0, 2}[n-1] {
				want = api.ErrIndex
			}
			if o, e := d.Outcome(n, i); e != want || e != api.OK && !sameOutcome(o, api.Outcome{}) {
				t.Errorf("Outcome(%d, %d): %v, %d, not %d", n, i, o, e, want)
			}
		}
	}
}

// 8.5: rows are in the order of keys, by table and then by row, in whatever order they came; keys at the edges are keys.
func TestRowsInOrder(t *testing.T) {
	var want []api.Row
	for _, table := range []int{0, 1, 2, 255, 256, 65534, 65535} {
		for _, r := range []int64{math.MinInt64, math.MinInt64 + 1, -256, -1, 0, 1, 255, 256, math.MaxInt64 - 1, math.MaxInt64} {
			want = append(want, api.Row{Key: api.Key{Table: table, Row: r}, Value: int64(len(want)) - 30})
		}
	}
	for _, stride := range []int{1, 3, 69, 11} { // each is prime to 70
		d := made(t)
		for i := range want {
			r := want[(i*stride+5)%len(want)]
			ran(t, d, api.Tx{Proc: pPut, Args: []int64{r.Value}, Writes: []api.Key{r.Key}})
		}
		stands(t, d, len(want), want...)
		stands(t, d, 0)
	}
}
