package batch_test

import (
	"bytes"
	"math"
	"slices"
	"testing"

	"prelude/api"
	"prelude/batch"
)

// one is the ten bytes of the key 0:1.
func one() []byte { return []byte{0, 0, 128, 0, 0, 0, 0, 0, 0, 1} }

// stands asks that a batch has just these bytes, there and back.
func stands(t *testing.T, b []api.Tx, data []byte) {
	t.Helper()
	if got, e := batch.Encode(b); e != api.OK || !bytes.Equal(got, data) {
		t.Errorf("Encode of %v is %v, %d, want %v", b, got, e, data)
	}
	if got, at, e := batch.Decode(data); e != api.OK || at != 0 || !same(got, b) {
		t.Errorf("Decode of %v is %v, %d, %d, want %v", data, got, at, e, b)
	}
}

// unwritten asks that Encode refuses a batch.
func unwritten(t *testing.T, b []api.Tx, want api.Errno) {
	t.Helper()
	if data, e := batch.Encode(b); e != want || len(data) != 0 {
		t.Errorf("Encode of %v is %v, %d, want %d", b, data, e, want)
	}
}

// unread asks that Decode refuses bytes, at that place.
func unread(t *testing.T, place int, want api.Errno, data ...byte) {
	t.Helper()
	if b, at, e := batch.Decode(data); at != place || e != want || len(b) != 0 {
		t.Errorf("Decode of %v is %v, %d at %d, want %d at %d", data, b, e, at, want, place)
	}
}

// 6.2, 6.3: the chapter's first example, and a batch with all that there may be in it.
func TestBytes(t *testing.T) {
	stands(t, nil, []byte{0})
	stands(t, []api.Tx{put(10, 1)}, append([]byte{1, 1, 1, 20, 0, 1}, one()...))
	stands(t, []api.Tx{{}, {Proc: 63}}, []byte{2, 0, 0, 0, 0, 63, 0, 0, 0})
	stands(t, []api.Tx{
		{Proc: 7, Args: []int64{-1, 64, math.MinInt64}, Reads: []api.Key{{Table: 0, Row: -1}, {Table: 258, Row: math.MaxInt64}}},
		{Writes: []api.Key{{Table: api.MaxTable, Row: math.MinInt64}}},
	}, []byte{2,
		7, 3, 1, 128, 1, 255, 255, 255, 255, 255, 255, 255, 255, 255, 1,
		2, 0, 0, 127, 255, 255, 255, 255, 255, 255, 255, 1, 2, 255, 255, 255, 255, 255, 255, 255, 255, 0,
		0, 0, 0, 1, 255, 255, 0, 0, 0, 0, 0, 0, 0, 0})
}

// 6.2, 6.3: as much as there may be of everything.
func TestGreatestBatch(t *testing.T) {
	args := slices.Repeat([]int64{math.MinInt64, 0}, api.MaxArgs/2)
	b := slices.Repeat([]api.Tx{{Proc: api.MaxProcs - 1, Args: args, Reads: rising(api.MaxReads), Writes: rising(api.MaxWrites)}}, api.MaxTxs)
	data, e := batch.Encode(b)
	if want := 1 + 64*(1+1+8*10+8*1+1+16*10+1+16*10); e != api.OK || len(data) != want {
		t.Errorf("%d bytes, %d, want %d", len(data), e, want)
	}
	stands(t, b, data)
	stands(t, []api.Tx{{Args: make([]int64, 16)}}, append([]byte{1, 0, 16}, make([]byte, 18)...))
}

// 6.2: the chapter's examples, and one past each limit.
func TestEncodeRefuses(t *testing.T) {
	unwritten(t, []api.Tx{{Proc: 64}}, api.ErrProc)
	unwritten(t, []api.Tx{{Proc: -1}}, api.ErrProc)
	unwritten(t, []api.Tx{{Args: make([]int64, 17)}}, api.ErrArgs)
	unwritten(t, []api.Tx{{Reads: rising(17)}}, api.ErrReads)
	unwritten(t, []api.Tx{{Writes: rising(17)}}, api.ErrWrites)
	unwritten(t, []api.Tx{{Reads: rows(1, 1)}}, api.ErrSet)
	unwritten(t, []api.Tx{{Writes: rows(1, 1)}}, api.ErrSet)
	unwritten(t, []api.Tx{{Reads: rows(2, 1)}}, api.ErrSet)
	unwritten(t, []api.Tx{{Reads: []api.Key{{Table: -1}}}}, api.ErrSet)
	unwritten(t, []api.Tx{{Writes: []api.Key{{Table: api.MaxTable + 1}}}}, api.ErrSet)
	unwritten(t, make([]api.Tx, 65), api.ErrTxs)
	unwritten(t, slices.Repeat([]api.Tx{{Proc: 64}}, 65), api.ErrTxs)
	unwritten(t, []api.Tx{{}, {Reads: rows(1, 1)}, {Proc: 64}}, api.ErrSet)
}

// 6.2: of several errors of a transaction the one that is named first.
func TestEncodeOrder(t *testing.T) {
	tx := api.Tx{Proc: 64, Args: make([]int64, 17), Reads: make([]api.Key, 17), Writes: make([]api.Key, 17)}
	unwritten(t, []api.Tx{tx}, api.ErrProc)
	tx.Proc = 0
	unwritten(t, []api.Tx{tx}, api.ErrArgs)
	tx.Args = nil
	unwritten(t, []api.Tx{tx}, api.ErrReads)
	tx.Reads = make([]api.Key, 16)
	unwritten(t, []api.Tx{tx}, api.ErrWrites)
	tx.Writes = make([]api.Key, 16)
	unwritten(t, []api.Tx{tx}, api.ErrSet)
	tx.Reads = nil
	unwritten(t, []api.Tx{tx}, api.ErrSet)
	tx.Writes = make([]api.Key, 1)
	stands(t, []api.Tx{tx}, []byte{1, 0, 0, 0, 1, 0, 0, 128, 0, 0, 0, 0, 0, 0, 0})
}

// 6.3: the chapter's examples.
func TestDecodeExamples(t *testing.T) {
	unread(t, 0, api.ErrShort)
	unread(t, 1, api.ErrShort, 1)
	unread(t, 0, api.ErrBig, 65)
	unread(t, 1, api.ErrForm, 0, 0)
	unread(t, 1, api.ErrBig, 1, 64)
	unread(t, 2, api.ErrBig, 1, 1, 17)
	unread(t, 0, api.ErrForm, 128, 0)
	unread(t, 14, api.ErrSet, slices.Concat([]byte{1, 0, 0, 2}, one(), one(), []byte{0})...)
	unread(t, 4, api.ErrShort, append([]byte{1, 0, 0, 1}, one()[:9]...)...)
}

// 6.3: each number, too big, of a wrong form, and cut; at the place at which it begins.
func TestDecodeNumbers(t *testing.T) {
	for _, c := range []struct {
		ahead []byte
		most  byte
	}{
		{nil, 64}, {[]byte{1}, 63}, {[]byte{1, 5}, 16}, {[]byte{1, 5, 0}, 16}, {[]byte{1, 5, 0, 0}, 16},
		{slices.Concat([]byte{2, 5, 1, 2, 1}, one(), []byte{0}), 63},
		{slices.Concat([]byte{2, 5, 1, 2, 1}, one(), []byte{0, 63, 2, 128, 1, 0}), 16},
	} {
		at := len(c.ahead)
		with := func(more ...byte) []byte { return slices.Concat(c.ahead, more) }
		unread(t, at, api.ErrShort, with()...)
		unread(t, at, api.ErrBig, with(c.most+1)...)
		unread(t, at, api.ErrBig, with(127, 1, 1)...)
		unread(t, at, api.ErrShort, with(128)...)
		unread(t, at, api.ErrShort, with(255, 255, 255)...)
		unread(t, at, api.ErrForm, with(129, 0)...)
		unread(t, at, api.ErrBig, with(128, 1)...)
		unread(t, at, api.ErrBig, with(255, 255, 255, 255, 255, 255, 255, 255, 255, 1)...)
		unread(t, at, api.ErrForm, with(255, 255, 255, 255, 255, 255, 255, 255, 255, 2)...)
		// As much as may be is read: what is behind it is missing.
		unread(t, at+1, api.ErrShort, with(c.most)...)
	}
}

// 6.3: an Arg may be any number, and has one form.
func TestDecodeArgs(t *testing.T) {
	unread(t, 3, api.ErrShort, 1, 0, 1)
	unread(t, 3, api.ErrShort, 1, 0, 1, 200)
	unread(t, 3, api.ErrForm, 1, 0, 1, 200, 0, 0, 0)
	unread(t, 3, api.ErrForm, 1, 0, 1, 255, 255, 255, 255, 255, 255, 255, 255, 255, 3)
	unread(t, 5, api.ErrForm, 1, 0, 2, 200, 1, 128, 0)
	unread(t, 5, api.ErrShort, 1, 0, 2, 200, 1)
	stands(t, []api.Tx{{Args: []int64{100, math.MaxInt64}}}, []byte{1, 0, 2, 200, 1, 254, 255, 255, 255, 255, 255, 255, 255, 255, 1, 0, 0})
}

// 6.3: keys that are cut or do not rise, in Reads and in Writes; whether too few bytes are left is asked first.
func TestDecodeKeys(t *testing.T) {
	below := []byte{0, 0, 127, 255, 255, 255, 255, 255, 255, 255}
	above := []byte{0, 1, 0, 0, 0, 0, 0, 0, 0, 0}
	for _, ahead := range [][]byte{{1, 0, 0}, {1, 0, 0, 0}, {2, 1, 1, 20, 0, 0, 9, 0}} {
		at := len(ahead) + 1
		for n := range 10 {
			unread(t, at, api.ErrShort, slices.Concat(ahead, []byte{1}, one()[:n])...)
			unread(t, at+10, api.ErrShort, slices.Concat(ahead, []byte{2}, one(), below[:n])...)
			unread(t, at+20, api.ErrShort, slices.Concat(ahead, []byte{3}, below, one(), above[:n])...)
		}
		unread(t, at+10, api.ErrSet, slices.Concat(ahead, []byte{2}, one(), below)...)
		unread(t, at+10, api.ErrSet, slices.Concat(ahead, []byte{2}, one(), one())...)
		unread(t, at+10, api.ErrSet, slices.Concat(ahead, []byte{3}, above, one(), below)...)
		unread(t, at+20, api.ErrSet, slices.Concat(ahead, []byte{3}, below, above, one(), []byte{255})...)
	}
	// Reads and Writes are two sets, and each transaction has its own.
	stands(t, []api.Tx{{Reads: rows(1), Writes: rows(1)}, {Reads: rows(-1), Writes: rows(-1)}},
		slices.Concat([]byte{2, 0, 0, 1}, one(), []byte{1}, one(), []byte{0, 0, 1}, below, []byte{1}, below))
}

// 6.3: what is left behind the last transaction, at the first byte of it.
func TestDecodeLeft(t *testing.T) {
	example := append([]byte{1, 1, 1, 20, 0, 1}, one()...)
	for _, more := range [][]byte{{0}, {1}, {255}, {128, 0}, example} {
		unread(t, 16, api.ErrForm, slices.Concat(example, more)...)
		unread(t, 1, api.ErrForm, slices.Concat([]byte{0}, more)...)
	}
}
