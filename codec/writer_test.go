package codec_test

import (
	"bytes"
	"math"
	"testing"

	"prelude/codec"
)

// spoil overwrites bytes and the spare room behind them, as a caller may who owns them.
func spoil(b []byte) {
	b = b[:cap(b)]
	for i := range b {
		b[i] ^= 255
	}
}

// written is the bytes of one Writer that was given some calls.
func written(calls ...func(w *codec.Writer)) []byte {
	w := codec.New()
	for _, call := range calls {
		call(w)
	}
	return w.Out()
}

// 1.1: New, and the chapter's first example.
func TestWriterExample(t *testing.T) {
	w := codec.New()
	if w.Len() != 0 || len(w.Out()) != 0 {
		t.Errorf("New has %d bytes: %v", w.Len(), w.Out())
	}
	w.Byte(7)
	w.Uint(300)
	w.Int(-3)
	w.Bytes([]byte{1, 2})
	if want := []byte{7, 172, 2, 5, 2, 1, 2}; !bytes.Equal(w.Out(), want) || w.Len() != 7 {
		t.Errorf("Out is %v, Len %d; want %v", w.Out(), w.Len(), want)
	}
}

// 1.1: Byte is any byte as it is.
func TestWriterByte(t *testing.T) {
	for n := range 256 {
		if b := written(func(w *codec.Writer) { w.Byte(byte(n)) }); !bytes.Equal(b, []byte{byte(n)}) {
			t.Errorf("Byte(%d) wrote %v", n, b)
		}
	}
}

// 1.1: Uint, at the edges of each number of bytes.
func TestWriterUint(t *testing.T) {
	for _, c := range []struct {
		n    uint64
		want []byte
	}{
		{0, []byte{0}},
		{1, []byte{1}},
		{127, []byte{127}},
		{128, []byte{128, 1}},
		{255, []byte{255, 1}},
		{300, []byte{172, 2}},
		{16383, []byte{255, 127}},
		{16384, []byte{128, 128, 1}},
		{1 << 56, []byte{128, 128, 128, 128, 128, 128, 128, 128, 1}},
		{1<<63 - 1, []byte{255, 255, 255, 255, 255, 255, 255, 255, 127}},
		{1 << 63, []byte{128, 128, 128, 128, 128, 128, 128, 128, 128, 1}},
		{math.MaxUint64, []byte{255, 255, 255, 255, 255, 255, 255, 255, 255, 1}},
	} {
		if b := written(func(w *codec.Writer) { w.Uint(c.n) }); !bytes.Equal(b, c.want) {
			t.Errorf("Uint(%d) wrote %v, want %v", c.n, b, c.want)
		}
	}
}

// 1.1: as few bytes as can be, on both sides of every power of 128.
func TestWriterUintSizes(t *testing.T) {
	for size := 1; size <= 9; size++ {
		edge := uint64(1) << (7 * size)
		if b := written(func(w *codec.Writer) { w.Uint(edge - 1) }); len(b) != size {
			t.Errorf("Uint(%d) wrote %d bytes, want %d", edge-1, len(b), size)
		}
		if b := written(func(w *codec.Writer) { w.Uint(edge) }); len(b) != size+1 {
			t.Errorf("Uint(%d) wrote %d bytes, want %d", edge, len(b), size+1)
		}
	}
}

// 1.1: Int is the number without sign that the chapter names.
func TestWriterInt(t *testing.T) {
	for _, c := range []struct {
		n    int64
		as   uint64
		what string
	}{
		{0, 0, "zero"},
		{-1, 1, "-1"},
		{1, 2, "1"},
		{-2, 3, "-2"},
		{2, 4, "2"},
		{63, 126, "the last one of one byte"},
		{-64, 127, "the last one of one byte below 0"},
		{64, 128, "the first one of two bytes"},
		{-65, 129, "the first one of two bytes below 0"},
		{math.MaxInt64, math.MaxUint64 - 1, "the greatest"},
		{math.MinInt64, math.MaxUint64, "the least"},
	} {
		b := written(func(w *codec.Writer) { w.Int(c.n) })
		want := written(func(w *codec.Writer) { w.Uint(c.as) })
		if !bytes.Equal(b, want) {
			t.Errorf("%s: Int(%d) wrote %v, want %v", c.what, c.n, b, want)
		}
	}
}

// 1.1: Raw is the bytes alone, Bytes their length ahead of them.
func TestWriterRawAndBytes(t *testing.T) {
	long := bytes.Repeat([]byte{200}, 300)
	for _, b := range [][]byte{nil, {}, {0}, {128, 0, 255}, long[:127], long[:128], long} {
		raw := written(func(w *codec.Writer) { w.Raw(b) })
		if !bytes.Equal(raw, b) {
			t.Errorf("Raw of %d bytes wrote %d", len(b), len(raw))
		}
		want := append(written(func(w *codec.Writer) { w.Uint(uint64(len(b))) }), b...)
		if got := written(func(w *codec.Writer) { w.Bytes(b) }); !bytes.Equal(got, want) {
			t.Errorf("Bytes of %d bytes wrote %v", len(b), got)
		}
	}
}

// 1.1: what is written stands behind what was written ahead; Len and Out change nothing.
func TestWriterOrder(t *testing.T) {
	w := codec.New()
	var want []byte
	for i := range 1000 {
		w.Raw([]byte{byte(i), byte(i / 256)})
		want = append(want, byte(i), byte(i/256))
		if w.Len() != len(want) || !bytes.Equal(w.Out(), want) || !bytes.Equal(w.Out(), want) || w.Len() != len(want) {
			t.Fatalf("behind %d calls: Len is %d, want %d", i+1, w.Len(), len(want))
		}
	}
}

// 1.1, R4: what is handed in is neither changed nor kept, and what is handed out is new memory.
func TestWriterMemory(t *testing.T) {
	room := []byte{1, 2, 3, 4, 5}
	w := codec.New()
	w.Raw(room[:2])
	w.Bytes(room[:2])
	if !bytes.Equal(room, []byte{1, 2, 3, 4, 5}) {
		t.Fatalf("the bytes that were handed in became %v", room)
	}
	spoil(room)
	want := []byte{1, 2, 2, 1, 2}
	if !bytes.Equal(w.Out(), want) {
		t.Errorf("Out is %v, want %v", w.Out(), want)
	}
	first, second := w.Out(), w.Out()
	spoil(first)
	if !bytes.Equal(second, want) || !bytes.Equal(w.Out(), want) {
		t.Errorf("an answer shares memory: %v, %v", second, w.Out())
	}
	w.Byte(9)
	spoil(second)
	if !bytes.Equal(w.Out(), []byte{1, 2, 2, 1, 2, 9}) {
		t.Errorf("an answer's spare room is shared: %v", w.Out())
	}
}

// R6: two Writers know nothing of one another.
func TestWritersApart(t *testing.T) {
	a, b := codec.New(), codec.New()
	a.Byte(1)
	b.Byte(2)
	a.Byte(3)
	if !bytes.Equal(a.Out(), []byte{1, 3}) || !bytes.Equal(b.Out(), []byte{2}) {
		t.Errorf("%v, %v", a.Out(), b.Out())
	}
}
