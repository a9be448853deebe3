package codec_test

import (
	"bytes"
	"math"
	"strconv"
	"testing"

	"prelude/api"
	"prelude/codec"
)

// ten is nine bytes 255 and one more.
func ten(last ...byte) []byte { return append(bytes.Repeat([]byte{255}, 9), last...) }

// readsNothing tells whether all six calls that read answer nothing and change nothing.
func readsNothing(r *codec.Reader) bool {
	at, left, err := r.At(), r.Left(), r.Err()
	none := r.Byte() == 0 && r.Uint() == 0 && r.Upto(math.MaxUint64) == 0 && r.Int() == 0 &&
		len(r.Bytes(math.MaxInt)) == 0 && len(r.Raw(0)) == 0 && len(r.Raw(1)) == 0 && len(r.Raw(-1)) == 0
	return none && r.At() == at && r.Left() == left && r.Err() == err && r.End() == err
}

// 1.2: a Reader begins at the front, without an error.
func TestReadBegins(t *testing.T) {
	for _, b := range [][]byte{nil, {}, {5}, {128, 128}} {
		r := codec.Read(b)
		if r.At() != 0 || r.Left() != len(b) || r.Err() != api.OK {
			t.Errorf("Read(%v): at %d, left %d, error %d", b, r.At(), r.Left(), r.Err())
		}
	}
}

// 1.2, R4: the bytes are read as they were at Read, and what is handed out is new memory.
func TestReadMemory(t *testing.T) {
	in := []byte{7, 2, 1, 2, 3, 4, 9}
	r := codec.Read(in)
	spoil(in)
	if n := r.Byte(); n != 7 {
		t.Errorf("Byte is %d, want 7", n)
	}
	first := r.Bytes(2)
	if !bytes.Equal(first, []byte{1, 2}) {
		t.Errorf("Bytes is %v", first)
	}
	spoil(first)
	second := r.Raw(2)
	if !bytes.Equal(second, []byte{3, 4}) {
		t.Errorf("Raw is %v", second)
	}
	spoil(second)
	if n := r.Byte(); n != 9 || r.End() != api.OK {
		t.Errorf("the last Byte is %d, End %d", n, r.End())
	}
}

// 1.2, R4: nothing that reads changes what was handed in.
func TestReadLeavesInput(t *testing.T) {
	in := []byte{7, 172, 2, 5, 2, 1, 2, 9, 9}
	was := bytes.Clone(in)
	r := codec.Read(in[:7])
	r.Byte()
	r.Uint()
	r.Int()
	spoil(r.Bytes(2))
	if r.End() != api.OK || !bytes.Equal(in, was) {
		t.Errorf("End %d, the bytes are %v", r.End(), in)
	}
}

// 1.3: Byte.
func TestReaderByte(t *testing.T) {
	r := codec.Read([]byte{0, 255})
	if a, b := r.Byte(), r.Byte(); a != 0 || b != 255 || r.At() != 2 || r.End() != api.OK {
		t.Errorf("%d, %d at %d, End %d", a, b, r.At(), r.End())
	}
	if n := r.Byte(); n != 0 || r.Err() != api.ErrShort || r.At() != 2 {
		t.Errorf("behind the end: %d, error %d at %d", n, r.Err(), r.At())
	}
}

// 1.3: Uint, and Upto without a bound, with bytes ahead of the number and behind it.
func TestReaderUint(t *testing.T) {
	for _, c := range []struct {
		b    []byte
		n    uint64
		size int
		e    api.Errno
	}{
		{nil, 0, 0, api.ErrShort},
		{[]byte{0}, 0, 1, api.OK},
		{[]byte{0, 0}, 0, 1, api.OK},
		{[]byte{127, 5}, 127, 1, api.OK},
		{[]byte{128}, 0, 0, api.ErrShort},
		{[]byte{255}, 0, 0, api.ErrShort},
		{[]byte{128, 0}, 0, 0, api.ErrForm},
		{[]byte{255, 0}, 0, 0, api.ErrForm},
		{[]byte{128, 1}, 128, 2, api.OK},
		{[]byte{172, 2, 0}, 300, 2, api.OK},
		{[]byte{128, 128}, 0, 0, api.ErrShort},
		{[]byte{128, 128, 0}, 0, 0, api.ErrForm},
		{[]byte{128, 128, 1}, 16384, 3, api.OK},
		{ten()[:8], 0, 0, api.ErrShort},
		{append(ten()[:8], 127), 1<<63 - 1, 9, api.OK},
		{ten(), 0, 0, api.ErrShort},
		{ten(0), 0, 0, api.ErrForm},
		{ten(1), math.MaxUint64, 10, api.OK},
		{ten(1, 1), math.MaxUint64, 10, api.OK},
		{ten(2), 0, 0, api.ErrForm},
		{ten(127), 0, 0, api.ErrForm},
		{ten(128), 0, 0, api.ErrForm},
		{ten(129), 0, 0, api.ErrForm},
		{ten(129, 0), 0, 0, api.ErrForm},
		{ten(255, 255, 1), 0, 0, api.ErrForm},
	} {
		for _, read := range []func(r *codec.Reader) uint64{
			func(r *codec.Reader) uint64 { return r.Uint() },
			func(r *codec.Reader) uint64 { return r.Upto(math.MaxUint64) },
		} {
			r := codec.Read(append([]byte{3}, c.b...))
			r.Byte()
			if n := read(r); n != c.n || r.Err() != c.e || r.At() != 1+c.size || r.Left() != len(c.b)-c.size {
				t.Errorf("%v is %d, error %d at %d, left %d", c.b, n, r.Err(), r.At(), r.Left())
			}
			if c.e != api.OK && !readsNothing(r) {
				t.Errorf("%v: something is read behind error %d", c.b, c.e)
			}
		}
	}
}

// 1.3: every number of one or two bytes, told by the rule itself.
func TestReaderUintShortForms(t *testing.T) {
	for a := range 256 {
		for b := range 256 {
			n, e, size := uint64(a), api.OK, 1
			if a >= 128 {
				n, size = uint64(a-128+128*b), 2
			}
			if a >= 128 && b == 0 {
				n, e, size = 0, api.ErrForm, 0
			}
			if a >= 128 && b >= 128 {
				n, e, size = 0, api.ErrShort, 0
			}
			r := codec.Read([]byte{byte(a), byte(b)})
			if got := r.Uint(); got != n || r.Err() != e || r.At() != size {
				t.Fatalf("%d %d is %d, error %d at %d; want %d, %d at %d", a, b, got, r.Err(), r.At(), n, e, size)
			}
		}
	}
}

// 1.3: Upto at its bound, and what comes ahead of ErrBig.
func TestReaderUpto(t *testing.T) {
	for _, c := range []struct {
		b    []byte
		most uint64
		n    uint64
		e    api.Errno
	}{
		{[]byte{172, 2}, 300, 300, api.OK},
		{[]byte{172, 2}, 301, 300, api.OK},
		{[]byte{172, 2}, 299, 0, api.ErrBig},
		{[]byte{0}, 0, 0, api.OK},
		{[]byte{1}, 0, 0, api.ErrBig},
		{ten(1), math.MaxUint64 - 1, 0, api.ErrBig},
		{ten(1), math.MaxInt64, 0, api.ErrBig},
		{[]byte{255}, 0, 0, api.ErrShort},
		{[]byte{255, 0}, 0, 0, api.ErrForm},
		{ten(2), 0, 0, api.ErrForm},
		{nil, 0, 0, api.ErrShort},
	} {
		r := codec.Read(c.b)
		if n := r.Upto(c.most); n != c.n || r.Err() != c.e {
			t.Errorf("Upto(%d) of %v is %d, error %d", c.most, c.b, n, r.Err())
		}
		if c.e != api.OK && (r.At() != 0 || !readsNothing(r)) {
			t.Errorf("Upto(%d) of %v: at %d behind the error", c.most, c.b, r.At())
		}
	}
}

// 1.3: Int.
func TestReaderInt(t *testing.T) {
	for _, c := range []struct {
		b []byte
		n int64
		e api.Errno
	}{
		{[]byte{0}, 0, api.OK},
		{[]byte{1}, -1, api.OK},
		{[]byte{2}, 1, api.OK},
		{[]byte{3}, -2, api.OK},
		{[]byte{4}, 2, api.OK},
		{[]byte{127}, -64, api.OK},
		{[]byte{128, 1}, 64, api.OK},
		{append([]byte{254}, ten(1)[1:]...), math.MaxInt64, api.OK},
		{ten(1), math.MinInt64, api.OK},
		{ten(2), 0, api.ErrForm},
		{[]byte{129, 0}, 0, api.ErrForm},
		{[]byte{129}, 0, api.ErrShort},
		{nil, 0, api.ErrShort},
	} {
		r := codec.Read(c.b)
		if n := r.Int(); n != c.n || r.Err() != c.e {
			t.Errorf("Int of %v is %d, error %d", c.b, n, r.Err())
		}
		if c.e == api.OK && r.End() != api.OK || c.e != api.OK && (r.At() != 0 || !readsNothing(r)) {
			t.Errorf("Int of %v: at %d, End %d", c.b, r.At(), r.End())
		}
	}
}

// 1.3: Bytes, each error, and which comes first.
func TestReaderBytes(t *testing.T) {
	for _, c := range []struct {
		b    []byte
		most int
		want []byte
		e    api.Errno
	}{
		{[]byte{0}, 0, nil, api.OK},
		{[]byte{2, 8, 9}, 2, []byte{8, 9}, api.OK},
		{[]byte{2, 8, 9}, math.MaxInt, []byte{8, 9}, api.OK},
		{[]byte{2, 8, 9, 10}, 3, []byte{8, 9}, api.OK},
		{append([]byte{128, 1}, make([]byte, 128)...), 128, make([]byte, 128), api.OK},
		{[]byte{2, 8, 9}, 1, nil, api.ErrBig},
		{[]byte{5, 1, 2}, 4, nil, api.ErrBig},
		{[]byte{0}, -1, nil, api.ErrBig},
		{[]byte{1, 8}, -1, nil, api.ErrBig},
		{[]byte{0}, math.MinInt, nil, api.ErrBig},
		{[]byte{3, 1, 2}, 4, nil, api.ErrShort},
		{[]byte{1}, 1, nil, api.ErrShort},
		{append([]byte{128, 1}, make([]byte, 127)...), 128, nil, api.ErrShort},
		{ten(1), math.MaxInt, nil, api.ErrBig},
		{append(ten()[:8], 127, 0), math.MaxInt, nil, api.ErrShort},
		{nil, -1, nil, api.ErrShort},
		{[]byte{128}, -1, nil, api.ErrShort},
		{[]byte{128, 0}, -1, nil, api.ErrForm},
		{ten(2), -1, nil, api.ErrForm},
	} {
		r := codec.Read(c.b)
		got := r.Bytes(c.most)
		if !bytes.Equal(got, c.want) || r.Err() != c.e {
			t.Errorf("Bytes(%d) of %v is %v, error %d", c.most, c.b, got, r.Err())
		}
		if c.e != api.OK && (r.At() != 0 || !readsNothing(r)) {
			t.Errorf("Bytes(%d) of %v: at %d behind the error", c.most, c.b, r.At())
		}
	}
}

// 1.3: Raw, each error.
func TestReaderRaw(t *testing.T) {
	for _, c := range []struct {
		n    int
		want []byte
		e    api.Errno
	}{
		{0, nil, api.OK},
		{1, []byte{8}, api.OK},
		{2, []byte{8, 9}, api.OK},
		{3, nil, api.ErrShort},
		{math.MaxInt, nil, api.ErrShort},
		{-1, nil, api.ErrForm},
		{math.MinInt, nil, api.ErrForm},
	} {
		r := codec.Read([]byte{7, 8, 9})
		r.Byte()
		got := r.Raw(c.n)
		if !bytes.Equal(got, c.want) || r.Err() != c.e || r.At() != 1+len(c.want) {
			t.Errorf("Raw(%d) is %v, error %d at %d", c.n, got, r.Err(), r.At())
		}
		if c.e != api.OK && !readsNothing(r) {
			t.Errorf("Raw(%d): something is read behind the error", c.n)
		}
	}
	if r := codec.Read(nil); len(r.Raw(-1)) != 0 || r.Err() != api.ErrForm {
		t.Errorf("Raw(-1) of nothing: error %d, want ErrForm", r.Err())
	}
	if r := codec.Read(nil); len(r.Raw(0)) != 0 || r.Err() != api.OK {
		t.Errorf("Raw(0) of nothing: error %d", r.Err())
	}
}

// 1.3: the chapter's third example, step by step.
func TestReaderExample(t *testing.T) {
	r := codec.Read([]byte{1, 9, 9})
	if b := r.Bytes(4); !bytes.Equal(b, []byte{9}) || r.Left() != 1 || r.End() != api.ErrForm {
		t.Errorf("Bytes(4) is %v, left %d, End %d", b, r.Left(), r.End())
	}
	if b := r.Raw(1); !bytes.Equal(b, []byte{9}) || r.End() != api.OK {
		t.Errorf("Raw(1) is %v, End %d", b, r.End())
	}
}

// 1.4: At and Left at each byte; asking changes nothing.
func TestReaderPlaces(t *testing.T) {
	r := codec.Read([]byte{5, 172, 2, 1, 1, 3, 3})
	steps := []func(){
		func() { r.Byte() }, func() { r.Uint() }, func() { r.Int() }, func() { r.Bytes(1) }, func() { r.Raw(1) },
	}
	for i, want := range []int{1, 3, 4, 6, 7} {
		steps[i]()
		for range 2 {
			end := api.ErrForm
			if want == 7 {
				end = api.OK
			}
			if r.At() != want || r.Left() != 7-want || r.Err() != api.OK || r.End() != end {
				t.Errorf("step %d: at %d, left %d, error %d, End %d", i, r.At(), r.Left(), r.Err(), r.End())
			}
		}
	}
}

// 1.4: Fail, behind nothing, behind another Fail, behind an error of reading.
func TestReaderFail(t *testing.T) {
	r := codec.Read([]byte{4})
	r.Fail(api.OK)
	if r.Err() != api.OK || r.End() != api.ErrForm {
		t.Errorf("Fail(OK): error %d, End %d", r.Err(), r.End())
	}
	if n := r.Byte(); n != 4 || r.End() != api.OK {
		t.Errorf("behind Fail(OK): %d, End %d", n, r.End())
	}

	r = codec.Read([]byte{4})
	r.Fail(api.ErrSum)
	r.Fail(api.ErrBig)
	r.Fail(api.OK)
	if r.Err() != api.ErrSum || r.End() != api.ErrSum || r.Left() != 1 || !readsNothing(r) {
		t.Errorf("Fail: error %d, End %d, left %d", r.Err(), r.End(), r.Left())
	}

	r = codec.Read([]byte{4})
	r.Raw(2)
	r.Fail(api.ErrSum)
	if r.Err() != api.ErrShort || r.End() != api.ErrShort {
		t.Errorf("Fail behind ErrShort: error %d", r.Err())
	}

	for _, e := range []api.Errno{api.ErrProgram, -1, math.MaxInt} {
		r = codec.Read(nil)
		r.Fail(e)
		if r.Err() != e || r.End() != e {
			t.Errorf("Fail(%d): error %d, End %d", e, r.Err(), r.End())
		}
	}
}

// 1.4: End of no bytes, and of bytes that are all left.
func TestReaderEnd(t *testing.T) {
	if r := codec.Read(nil); r.End() != api.OK {
		t.Errorf("End of nothing is %d", r.End())
	}
	r := codec.Read([]byte{1})
	if r.End() != api.ErrForm || r.Err() != api.OK {
		t.Errorf("End with a byte left is %d, error %d", r.End(), r.Err())
	}
	if n := r.Byte(); n != 1 || r.End() != api.OK {
		t.Errorf("End is kept: %d, End %d", n, r.End())
	}
}

// R1: no call panics at any odd argument, whatever bytes there are.
func TestReaderNeverPanics(t *testing.T) {
	for size := range 14 {
		for _, fill := range []byte{0, 1, 127, 128, 255} {
			for _, n := range []int{math.MinInt, -1, 0, 1, 12, 1 << 31, math.MaxInt} {
				b := bytes.Repeat([]byte{fill}, size)
				what := strconv.Itoa(size) + " bytes " + strconv.Itoa(int(fill))
				if r := codec.Read(b); len(r.Bytes(n)) > size || r.At()+r.Left() != size {
					t.Errorf("Bytes(%d) of %s: at %d, left %d", n, what, r.At(), r.Left())
				}
				if r := codec.Read(b); len(r.Raw(n)) > size || r.At()+r.Left() != size {
					t.Errorf("Raw(%d) of %s: at %d, left %d", n, what, r.At(), r.Left())
				}
			}
		}
	}
}
