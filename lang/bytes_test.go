package lang_test

import (
	"bytes"
	"math"
	"math/rand"
	"slices"
	"testing"

	"prelude/api"
	"prelude/codec"
	"prelude/lang"
)

// put is what Put writes of a program, and its answer.
func put(p api.Program) ([]byte, api.Errno) {
	w := codec.New()
	e := lang.Put(w, p)
	return w.Out(), e
}

// same tells whether two programs are the same.
func same(p, q api.Program) bool {
	return p.Args == q.Args && p.Reads == q.Reads && p.Writes == q.Writes && p.Locals == q.Locals && slices.Equal(p.Code, q.Code)
}

// isZero tells whether it is the zero program.
func isZero(p api.Program) bool { return same(p, api.Program{}) }

// 3.5: the chapter's examples, and programs that are not sound but can be written; 3.6: all of them read again.
func TestPut(t *testing.T) {
	for _, c := range []struct {
		p    api.Program
		want []byte
	}{
		{api.Program{}, []byte{0, 0, 0, 0, 0}},
		{api.Program{Args: 1, Writes: 1, Code: code(api.IArg, 0, api.IPut, 0)}, []byte{1, 0, 1, 0, 2, 6, 32}},
		{api.Program{Code: code(api.IPush, -3)}, []byte{0, 0, 0, 0, 1, 65, 5}},
		{api.Program{Args: 1, Reads: 2, Writes: 3, Locals: 4}, []byte{1, 2, 3, 4, 0}},
		{roomy(nil), []byte{16, 16, 16, 16, 0}},
		{api.Program{Code: code(api.IPush, 64, api.IPush, 150, api.IAbort, 0)}, []byte{0, 0, 0, 0, 3, 65, 128, 1, 65, 172, 2, 36}},
		{api.Program{Code: code(api.IStop, 1, api.IAbort, -1)}, []byte{0, 0, 0, 0, 2, 64, 2, 100, 1}},
		{api.Program{Code: code(api.IJump, 0, api.IZero, 99, api.IArg, -2, api.IPop, 0)}, []byte{0, 0, 0, 0, 4, 30, 95, 198, 1, 70, 3, 2}},
		{api.Program{Code: code(api.IAdd, math.MinInt64)}, append([]byte{0, 0, 0, 0, 1, 74}, append(bytes.Repeat([]byte{255}, 9), 1)...)},
		{api.Program{Code: code(api.IAdd, math.MaxInt64)}, append([]byte{0, 0, 0, 0, 1, 74, 254}, append(bytes.Repeat([]byte{255}, 8), 1)...)},
		{api.Program{Code: times(128, api.IPop)}, append([]byte{0, 0, 0, 0, 128, 1}, bytes.Repeat([]byte{2}, 128)...)},
		{api.Program{Code: times(256, api.IAdd)}, append([]byte{0, 0, 0, 0, 128, 2}, bytes.Repeat([]byte{10}, 256)...)},
	} {
		b, e := put(c.p)
		if e != api.OK || !bytes.Equal(b, c.want) {
			t.Errorf("Put of %v is %v, %d", c.p, b, e)
		}
		r := codec.Read(c.want)
		if p := lang.Get(r); !same(p, c.p) || r.End() != api.OK {
			t.Errorf("Get of %v is %v, %d", c.want, p, r.End())
		}
	}
}

// 3.5, 3.6: each instruction without an A, and with one.
func TestPutEachInstruction(t *testing.T) {
	for op := range api.NumOps {
		for _, c := range []struct {
			a    int64
			want []byte
		}{
			{0, []byte{byte(op)}},
			{1, []byte{byte(op + 64), 2}},
			{-1, []byte{byte(op + 64), 1}},
			{-64, []byte{byte(op + 64), 127}},
			{8192, []byte{byte(op + 64), 128, 128, 1}},
		} {
			p := api.Program{Code: code(int64(op), c.a)}
			want := append([]byte{0, 0, 0, 0, 1}, c.want...)
			if b, e := put(p); e != api.OK || !bytes.Equal(b, want) {
				t.Errorf("Put of %v is %v, %d", p, b, e)
			}
			r := codec.Read(want)
			if q := lang.Get(r); !same(p, q) || r.End() != api.OK {
				t.Errorf("Get of %v is %v, %d", want, q, r.End())
			}
		}
	}
}

// 3.5: of a program that can't be written nothing is written: 1. of 3.1 first, then the first wrong Op.
func TestPutRefuses(t *testing.T) {
	refuses := func(p api.Program, want api.Errno) {
		t.Helper()
		w := codec.New()
		w.Byte(7)
		if e := lang.Put(w, p); e != want || !bytes.Equal(w.Out(), []byte{7}) {
			t.Errorf("Put of %v is %d, want %d; the bytes are %v", p, e, want, w.Out())
		}
	}
	for _, n := range []int{-1, 17, math.MinInt, math.MaxInt, 1 << 32} {
		for _, c := range [][]api.Instr{nil, code(37, 0)} {
			refuses(api.Program{Args: n, Code: c}, api.ErrProgram)
			refuses(api.Program{Reads: n, Code: c}, api.ErrProgram)
			refuses(api.Program{Writes: n, Code: c}, api.ErrProgram)
			refuses(api.Program{Locals: n, Code: c}, api.ErrProgram)
		}
	}
	refuses(api.Program{Code: times(257, api.IStop)}, api.ErrProgram)
	refuses(api.Program{Code: times(257, 37)}, api.ErrProgram)
	for _, op := range noOps {
		refuses(api.Program{Code: code(int64(op), 0)}, api.ErrOp)
		refuses(api.Program{Code: code(api.IPush, 1, int64(op), 5)}, api.ErrOp)
		refuses(api.Program{Code: append(times(255, api.IStop), api.Instr{Op: op})}, api.ErrOp)
	}
}

// 3.5: what is written stands behind what was written ahead, and the program stays as it was.
func TestPutBehind(t *testing.T) {
	c, kept := marked(code(api.IPush, -3, api.IStop, 0))
	w := codec.New()
	w.Byte(9)
	e, f := lang.Put(w, api.Program{Args: 1, Code: c}), lang.Put(w, api.Program{})
	if e != api.OK || f != api.OK || !bytes.Equal(w.Out(), []byte{9, 1, 0, 0, 0, 2, 65, 5, 0, 0, 0, 0, 0, 0}) || !kept() {
		t.Errorf("%d, %d, %v, kept %t", e, f, w.Out(), kept())
	}
}

// 3.6: what goes wrong.
func TestGetRefuses(t *testing.T) {
	nine := bytes.Repeat([]byte{255}, 9)
	for _, c := range []struct {
		b []byte
		e api.Errno
	}{
		{nil, api.ErrShort},
		{[]byte{128}, api.ErrShort},
		{[]byte{128, 0}, api.ErrForm},
		{append(slices.Clone(nine), 2), api.ErrForm},
		{append(slices.Clone(nine), 1), api.ErrBig},
		{[]byte{16}, api.ErrShort},
		{[]byte{17}, api.ErrBig},
		{[]byte{128, 1}, api.ErrBig},
		{[]byte{17, 128, 0}, api.ErrBig},
		{[]byte{0, 16}, api.ErrShort},
		{[]byte{0, 17}, api.ErrBig},
		{[]byte{0, 17, 17, 255}, api.ErrBig},
		{[]byte{0, 145, 0}, api.ErrForm},
		{[]byte{0, 0, 16}, api.ErrShort},
		{[]byte{0, 0, 17}, api.ErrBig},
		{[]byte{0, 0, 0, 16}, api.ErrShort},
		{[]byte{0, 0, 0, 17}, api.ErrBig},
		{[]byte{0, 0, 0, 0}, api.ErrShort},
		{[]byte{0, 0, 0, 0, 128}, api.ErrShort},
		{[]byte{0, 0, 0, 0, 128, 0}, api.ErrForm},
		{[]byte{0, 0, 0, 0, 128, 2}, api.ErrShort},
		{[]byte{0, 0, 0, 0, 129, 2}, api.ErrBig},
		{append([]byte{0, 0, 0, 0}, append(slices.Clone(nine), 1)...), api.ErrBig},
		{[]byte{0, 0, 0, 0, 1}, api.ErrShort},
		{[]byte{0, 0, 0, 0, 2, 0}, api.ErrShort},
		{[]byte{0, 0, 0, 0, 2, 0, 37}, api.ErrOp},
		{[]byte{0, 0, 0, 0, 3, 0, 37}, api.ErrOp},
		{[]byte{0, 0, 0, 0, 1, 65}, api.ErrShort},
		{[]byte{0, 0, 0, 0, 1, 65, 128}, api.ErrShort},
		{[]byte{0, 0, 0, 0, 1, 65, 0}, api.ErrForm},
		{[]byte{0, 0, 0, 0, 2, 65, 0}, api.ErrForm},
		{[]byte{0, 0, 0, 0, 2, 65, 0, 37}, api.ErrForm},
		{[]byte{0, 0, 0, 0, 1, 65, 128, 0}, api.ErrForm},
		{append([]byte{0, 0, 0, 0, 1, 65}, append(slices.Clone(nine), 2)...), api.ErrForm},
		{[]byte{0, 0, 0, 0, 1, 101}, api.ErrOp},
		{[]byte{0, 0, 0, 0, 1, 101, 0}, api.ErrOp},
		{[]byte{0, 0, 0, 0, 1, 192, 0}, api.ErrOp},
	} {
		r := codec.Read(c.b)
		if p := lang.Get(r); r.Err() != c.e || !isZero(p) {
			t.Errorf("Get of %v is %v, %d, want %d", c.b, p, r.Err(), c.e)
		}
	}
}

// 3.6: each byte that an instruction could have, at the front and behind another instruction.
func TestGetEachByte(t *testing.T) {
	for b := range 256 {
		for _, ahead := range []struct {
			bytes []byte
			code  []api.Instr
		}{
			{[]byte{0, 0, 0, 0, 1}, nil},
			{[]byte{0, 0, 0, 0, 2, 2}, code(api.IPop, 0)},
			{[]byte{0, 0, 0, 0, 2, 66, 9}, code(api.IPop, -5)},
		} {
			r := codec.Read(slices.Concat(ahead.bytes, []byte{byte(b), 6}))
			p := lang.Get(r)
			if b >= 128 || b%64 >= 37 {
				if r.Err() != api.ErrOp || !isZero(p) {
					t.Errorf("the byte %d: %v, %d", b, p, r.Err())
				}
				continue
			}
			in, left := api.Instr{Op: b}, 1
			if b >= 64 {
				in, left = api.Instr{Op: b - 64, A: 3}, 0
			}
			want := api.Program{Code: slices.Concat(ahead.code, []api.Instr{in})}
			if r.Err() != api.OK || r.Left() != left || !same(p, want) {
				t.Errorf("the byte %d: %v, %d, left %d", b, p, r.Err(), r.Left())
			}
		}
	}
}

// 3.6: a Reader that has an error already stays as it is.
func TestGetOfFailed(t *testing.T) {
	for _, e := range []api.Errno{api.ErrShort, api.ErrForm, api.ErrBig, api.ErrSum, api.ErrOp, api.ErrKey} {
		r := codec.Read([]byte{7, 1, 0, 1, 0, 2, 6, 32})
		r.Byte()
		r.Fail(e)
		if p := lang.Get(r); !isZero(p) || r.Err() != e || r.At() != 1 || r.Left() != 7 {
			t.Errorf("%v, error %d, at %d, left %d", p, r.Err(), r.At(), r.Left())
		}
	}
}

// 3.6, R4: programs behind one another, and one has no memory of another.
func TestGetBehind(t *testing.T) {
	b := []byte{9, 1, 0, 1, 0, 2, 6, 32, 0, 0, 0, 0, 0, 16, 15, 14, 13, 1, 65, 5, 8}
	r := codec.Read(b)
	ahead, first, second, third, behind := r.Byte(), lang.Get(r), lang.Get(r), lang.Get(r), r.Byte()
	if ahead != 9 || behind != 8 || r.End() != api.OK {
		t.Errorf("%d, %d, %d", ahead, behind, r.End())
	}
	for i := range first.Code[:cap(first.Code)] {
		first.Code[:cap(first.Code)][i] = api.Instr{Op: 99, A: 99}
	}
	if first.Args != 1 || first.Writes != 1 || len(first.Code) != 2 || !isZero(second) {
		t.Errorf("%v, %v", first, second)
	}
	if !same(third, api.Program{Args: 16, Reads: 15, Writes: 14, Locals: 13, Code: code(api.IPush, -3)}) {
		t.Errorf("%v", third)
	}
	r = codec.Read(b)
	r.Byte()
	if again := lang.Get(r); !same(again, api.Program{Args: 1, Writes: 1, Code: code(api.IArg, 0, api.IPut, 0)}) {
		t.Errorf("read again: %v", again)
	}
}

// 3.5, 3.6: there and back: what is written is read again, and what is read of spoiled bytes is written to the very bytes.
func TestProgramsThereAndBack(t *testing.T) {
	r := rand.New(rand.NewSource(5))
	read := 0
	for i := range 20000 {
		p := anyProgram(r, i%20)
		b, e := put(p)
		if e != api.OK {
			continue
		}
		in := codec.Read(b)
		if q := lang.Get(in); !same(p, q) || in.End() != api.OK {
			t.Errorf("%v is read as %v, %d", p, q, in.End())
		}
		b[r.Intn(len(b))] = byte(r.Intn(256))
		in = codec.Read(b)
		q := lang.Get(in)
		if in.Err() != api.OK {
			if !isZero(q) {
				t.Errorf("%v: %v beside the error %d", b, q, in.Err())
			}
			continue
		}
		read++
		if again, e := put(q); e != api.OK || !bytes.Equal(again, b[:in.At()]) {
			t.Errorf("%v is read as %v, and written as %v, %d", b[:in.At()], q, again, e)
		}
	}
	if read < 1000 {
		t.Errorf("only %d spoiled programs are read", read)
	}
}
