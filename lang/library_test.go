package lang_test

import (
	"bytes"
	"hash/crc32"
	"math/rand"
	"slices"
	"strconv"
	"strings"
	"testing"

	"prelude/api"
	"prelude/codec"
	"prelude/lang"
)

// bank is the library of chapter 4's example.
func bank() []api.Proc {
	return []api.Proc{
		{Name: "move", Program: api.Program{Args: 1, Reads: 2, Writes: 2, Code: code(
			api.IGet, 0, api.IArg, 0, api.ILt, 0, api.IZero, 6, api.IPush, 1, api.IAbort, 0,
			api.IGet, 0, api.IArg, 0, api.ISub, 0, api.IPut, 0, api.IGet, 1, api.IArg, 0, api.IAdd, 0, api.IPut, 1)}},
		{Name: "put", Program: api.Program{Args: 1, Writes: 1, Code: code(api.IArg, 0, api.IPut, 0)}},
	}
}

// bankBytes is the same as bytes.
func bankBytes() []byte {
	return slices.Concat([]byte("PRL1\x02"),
		[]byte("\x04move"), []byte{1, 2, 2, 0, 14, 7, 6, 24, 95, 12, 65, 2, 36, 7, 6, 11, 32, 71, 2, 6, 10, 96, 2},
		[]byte("\x03put"), []byte{1, 0, 1, 0, 2, 6, 32})
}

// many is so many procedures of different names.
func many(n int) []api.Proc {
	var lib []api.Proc
	for i := range n {
		lib = append(lib, api.Proc{Name: "p" + strconv.Itoa(i)})
	}
	return lib
}

// named is procedures of these names, all with the empty program.
func named(names ...string) []api.Proc {
	var lib []api.Proc
	for _, s := range names {
		lib = append(lib, api.Proc{Name: s})
	}
	return lib
}

// sameLib tells whether two libraries are the same.
func sameLib(a, b []api.Proc) bool {
	return slices.EqualFunc(a, b, func(p, q api.Proc) bool { return p.Name == q.Name && same(p.Program, q.Program) })
}

// refused asks that Check, Encode and Digest all refuse a library so.
func refused(t *testing.T, lib []api.Proc, place int, want api.Errno) {
	t.Helper()
	if at, e := lang.Check(lib); at != place || e != want {
		t.Errorf("Check of %v is %d, %d, want %d, %d", lib, at, e, place, want)
	}
	if b, e := lang.Encode(lib); len(b) != 0 || e != want {
		t.Errorf("Encode of %v is %v, %d, want %d", lib, b, e, want)
	}
	if n, e := lang.Digest(lib); n != 0 || e != want {
		t.Errorf("Digest of %v is %d, %d, want %d", lib, n, e, want)
	}
}

// stands asks that Check finds a library sound, and that Encode, Decode and Digest go together; it is the bytes.
func stands(t *testing.T, lib []api.Proc) []byte {
	t.Helper()
	if at, e := lang.Check(lib); at != 0 || e != api.OK {
		t.Errorf("Check of %v is %d, %d", lib, at, e)
	}
	b, e := lang.Encode(lib)
	if e != api.OK {
		t.Errorf("Encode of %v is %d", lib, e)
	}
	if got, at, e := lang.Decode(b); at != 0 || e != api.OK || !sameLib(got, lib) {
		t.Errorf("Decode of Encode of %v is %v, %d, %d", lib, got, at, e)
	}
	if n, e := lang.Digest(lib); n != crc32.ChecksumIEEE(b) || e != api.OK {
		t.Errorf("Digest of %v is %d, %d", lib, n, e)
	}
	return b
}

// 3.7: how many procedures there may be.
func TestCheckProcs(t *testing.T) {
	for _, n := range []int{0, 1, 2, 63, 64} {
		stands(t, many(n))
	}
	stands(t, []api.Proc{})
	for _, n := range []int{65, 66, 1000} {
		refused(t, many(n), 0, api.ErrProcs)
		refused(t, make([]api.Proc, n), 0, api.ErrProcs)
	}
	bad := many(65)
	bad[3] = api.Proc{Name: "p2", Program: api.Program{Args: -1}}
	refused(t, bad, 0, api.ErrProcs)
}

// 3.7: what a name is, by each byte at the front and behind it, and by its length.
func TestCheckNames(t *testing.T) {
	const letters, digits = "abcdefghijklmnopqrstuvwxyzABCDEFGHIJKLMNOPQRSTUVWXYZ", "0123456789"
	expect := func(name string, ok bool) {
		t.Helper()
		lib := named("other", name, "third")
		if ok {
			stands(t, lib)
		} else {
			refused(t, lib, 1, api.ErrName)
		}
	}
	for c := range 256 {
		s := string([]byte{byte(c)})
		expect(s, strings.Contains(letters, s))
		for _, name := range []string{"x" + s, "x" + s + "x", "x1_" + s} {
			expect(name, strings.Contains(letters+digits+"_", s))
		}
	}
	for _, name := range []string{"", "1x", "_x", "_", "é", "xé", "x y", "x\n", "x-y", "x:", "ａ", "x\xff"} {
		expect(name, false)
	}
	expect(strings.Repeat("x", 30), true)
	expect(strings.Repeat("x", 31), true)
	expect(strings.Repeat("x", 32), false)
	expect(strings.Repeat("x", 1000), false)
	expect("x"+strings.Repeat("_9Z", 10), true)
	expect("x"+strings.Repeat("_9Z", 10)+"_", false)
	refused(t, named("1x"), 0, api.ErrName)
}

// 3.7: a name that stands twice is wrong where it comes the second time.
func TestCheckTwice(t *testing.T) {
	refused(t, named("a", "a"), 1, api.ErrName)
	refused(t, named("a", "b", "a"), 2, api.ErrName)
	refused(t, named("a", "b", "c", "b", "a"), 3, api.ErrName)
	refused(t, named("a", "b", "c", "c", "a"), 3, api.ErrName)
	stands(t, named("a", "A", "aa", "aA", "a_", "a1"))
	lib := many(64)
	lib[63].Name = "p0"
	refused(t, lib, 63, api.ErrName)
}

// 3.7: Verify's error of a program, behind what is wrong with the name, and of the first procedure that has one.
func TestCheckPrograms(t *testing.T) {
	bad := map[api.Errno]api.Program{
		api.ErrProgram: {Args: 17},
		api.ErrOp:      {Code: code(37, 0)},
		api.ErrArg:     {Code: code(api.IArg, 0)},
		api.ErrJump:    {Code: code(api.IJump, 0)},
		api.ErrStack:   {Code: code(api.IPop, 0)},
	}
	for e, p := range bad {
		refused(t, []api.Proc{{Name: "a", Program: p}}, 0, e)
		refused(t, []api.Proc{{Name: "a"}, {Name: "b", Program: p}, {Name: "c"}}, 1, e)
		refused(t, []api.Proc{{Name: "a"}, {Name: "a", Program: p}}, 1, api.ErrName)
		refused(t, []api.Proc{{Name: "", Program: p}}, 0, api.ErrName)
		refused(t, []api.Proc{{Name: "a", Program: p}, {Name: "a"}}, 0, e)
		refused(t, []api.Proc{{Name: "a", Program: p}, {Name: "1"}}, 0, e)
		refused(t, []api.Proc{{Name: "1"}, {Name: "a", Program: p}}, 0, api.ErrName)
		for f, q := range bad {
			refused(t, []api.Proc{{Name: "a"}, {Name: "b", Program: p}, {Name: "c", Program: q}}, 1, e)
			refused(t, []api.Proc{{Name: "a"}, {Name: "b", Program: q}, {Name: "c", Program: p}}, 1, f)
		}
	}
}

// 3.8: the chapter's example, and chapter 4's library.
func TestEncode(t *testing.T) {
	if b := stands(t, nil); !bytes.Equal(b, []byte{80, 82, 76, 49, 0}) {
		t.Errorf("the empty library is %v", b)
	}
	if b := stands(t, bank()); !bytes.Equal(b, bankBytes()) {
		t.Errorf("the example is %v, want %v", b, bankBytes())
	}
}

// 3.9, 1.: what is wrong with the form.
func TestDecodeForm(t *testing.T) {
	head := []byte("PRL1")
	behind := func(b ...byte) []byte { return append(slices.Clone(head), b...) }
	for _, c := range []struct {
		b []byte
		e api.Errno
	}{
		{behind(0, 0), api.ErrForm},
		{[]byte{80, 82, 76}, api.ErrShort},
		{[]byte{80, 82, 76, 50}, api.ErrForm},
		{behind(65), api.ErrBig},
		{nil, api.ErrShort},
		{[]byte{1, 2, 3}, api.ErrShort},
		{[]byte{81, 82, 76, 49, 0}, api.ErrForm},
		{[]byte{80, 82, 76, 49 + 128, 0}, api.ErrForm},
		{[]byte("prl1\x00"), api.ErrForm},
		{[]byte{80, 82, 76, 50, 65}, api.ErrForm},
		{head, api.ErrShort},
		{behind(128), api.ErrShort},
		{behind(128, 0), api.ErrForm},
		{behind(128, 1), api.ErrBig},
		{behind(255, 255, 255, 255, 255, 255, 255, 255, 255, 1), api.ErrBig},
		{behind(255, 255, 255, 255, 255, 255, 255, 255, 255, 2), api.ErrForm},
		{behind(1), api.ErrShort},
		{behind(64), api.ErrShort},
		{behind(1, 32), api.ErrBig},
		{behind(1, 31), api.ErrShort},
		{behind(1, 128, 0), api.ErrForm},
		{behind(1, 2, 'a'), api.ErrShort},
		{behind(1, 1, 'a'), api.ErrShort},
		{behind(1, 1, 'a', 17), api.ErrBig},
		{behind(1, 1, 'a', 0, 0, 0, 0, 129, 2), api.ErrBig},
		{behind(1, 1, 'a', 0, 0, 0, 0, 1, 37), api.ErrOp},
		{behind(1, 1, 'a', 0, 0, 0, 0, 1, 65, 0), api.ErrForm},
		{behind(1, 1, 'a', 0, 0, 0, 0, 0, 0), api.ErrForm},
		{behind(2, 1, 'a', 0, 0, 0, 0, 0), api.ErrShort},
		{behind(2, 1, 'a', 0, 0, 0, 0, 0, 32), api.ErrBig},
		// The first thing that is wrong, from the front on; and the form ahead of what is unsound.
		{behind(2, 1, 'a', 0, 0, 0, 0, 1, 37, 32), api.ErrOp},
		{behind(1, 1, '1', 0, 0, 0, 0, 0, 0), api.ErrForm},
		{behind(1, 0, 0, 0, 0, 0), api.ErrShort},
		{behind(2, 1, 'a', 0, 0, 0, 0, 1, 2, 1, 'a', 0, 0, 17), api.ErrBig},
		{behind(2, 1, 'a', 0, 0, 0, 0, 0, 1, 'a', 0, 0, 0, 0, 1, 128), api.ErrOp},
	} {
		if lib, at, e := lang.Decode(c.b); len(lib) != 0 || at != 0 || e != c.e {
			t.Errorf("Decode of %v is %v, %d, %d, want %d", c.b, lib, at, e, c.e)
		}
	}
}

// 3.9, 2.: Check's error, with its place.
func TestDecodeUnsound(t *testing.T) {
	for _, c := range []struct {
		b  []byte
		at int
		e  api.Errno
	}{
		{[]byte("PRL1\x01\x011\x00\x00\x00\x00\x00"), 0, api.ErrName},
		{[]byte("PRL1\x01\x00\x00\x00\x00\x00\x00"), 0, api.ErrName},
		{[]byte("PRL1\x02\x01a\x00\x00\x00\x00\x00\x01a\x00\x00\x00\x00\x00"), 1, api.ErrName},
		{[]byte("PRL1\x02\x01a\x00\x00\x00\x00\x00\x01b\x00\x00\x00\x00\x01\x02"), 1, api.ErrStack},
		{[]byte("PRL1\x02\x01a\x00\x00\x00\x00\x01\x06\x011\x00\x00\x00\x00\x01\x02"), 0, api.ErrArg},
		{[]byte("PRL1\x02\x01a\x00\x00\x00\x00\x00\x01b\x00\x00\x00\x00\x01\x1e"), 1, api.ErrJump},
		{[]byte("PRL1\x02\x01a\x00\x00\x00\x00\x00\x01b\x00\x00\x00\x00\x01\x40\x02"), 1, api.ErrArg},
	} {
		if lib, at, e := lang.Decode(c.b); len(lib) != 0 || at != c.at || e != c.e {
			t.Errorf("Decode of %q is %v, %d, %d, want %d, %d", c.b, lib, at, e, c.at, c.e)
		}
	}
}

// 3.9: a library cut anywhere is short, and one with a byte too many has not the form.
func TestDecodeCut(t *testing.T) {
	whole := bankBytes()
	for n := range whole {
		if lib, at, e := lang.Decode(whole[:n]); len(lib) != 0 || at != 0 || e != api.ErrShort {
			t.Errorf("Decode of %v is %v, %d, %d", whole[:n], lib, at, e)
		}
	}
	for b := range 256 {
		if lib, at, e := lang.Decode(append(bankBytes(), byte(b))); len(lib) != 0 || at != 0 || e != api.ErrForm {
			t.Errorf("Decode with the byte %d behind is %v, %d, %d", b, lib, at, e)
		}
	}
}

// 3.9: bytes are a library in one way: with each byte as any other they are refused, or Encode gives the very bytes.
func TestDecodeOneWay(t *testing.T) {
	for i, was := range bankBytes() {
		for c := range 256 {
			b := bankBytes()
			b[i] = byte(c)
			lib, at, e := lang.Decode(b)
			if e != api.OK {
				if len(lib) != 0 || c == int(was) {
					t.Errorf("Decode of %v is %v, %d, %d", b, lib, at, e)
				}
				continue
			}
			if again := stands(t, lib); at != 0 || !bytes.Equal(again, b) {
				t.Errorf("%v is read as %v at %d, and written as %v", b, lib, at, again)
			}
		}
	}
}

// 3.7 to 3.10: libraries of any sound programs, there and back.
func TestAnyLibraries(t *testing.T) {
	r := rand.New(rand.NewSource(8))
	for range 300 {
		lib := many(r.Intn(12))
		for i := range lib {
			p := anyProgram(r, r.Intn(12))
			for lang.Verify(p) != api.OK {
				p = anyProgram(r, r.Intn(12))
			}
			lib[i].Program = p
		}
		stands(t, lib)
	}
	full := many(64)
	for i := range full {
		full[i].Name += strings.Repeat("x", 31-len(full[i].Name))
		full[i].Program = roomy(slices.Repeat(code(api.IPush, -1<<63, api.IPop, 0), 128))
	}
	if b := stands(t, full); len(b) != 5+64*(1+31+6+128*12) {
		t.Errorf("the greatest library has %d bytes", len(b))
	}
}

// 3.10: the sum is that of the bytes.
func TestDigest(t *testing.T) {
	if n, e := lang.Digest(nil); n != codec.Sum([]byte{80, 82, 76, 49, 0}) || e != api.OK {
		t.Errorf("the empty library's is %d, %d", n, e)
	}
	if n, e := lang.Digest(bank()); n != codec.Sum(bankBytes()) || e != api.OK {
		t.Errorf("the example's is %d, %d", n, e)
	}
}

// R4: what is handed in stays as it was, also behind its end.
func TestLibraryLeavesInput(t *testing.T) {
	whole := append(bank(), api.Proc{Name: "behind", Program: api.Program{Code: code(api.IStop, 0)}})
	c, kept := marked(whole[0].Program.Code)
	whole[0].Program.Code = c
	lang.Check(whole[:2])
	lang.Encode(whole[:2])
	lang.Digest(whole[:2])
	if !kept() || !sameLib(whole[:2], bank()) || whole[2].Name != "behind" || len(whole[2].Program.Code) != 1 {
		t.Errorf("the library is %v", whole)
	}
	b := append(bankBytes(), 7, 7, 7)
	n := len(b) - 3
	lang.Decode(b[:n])
	if !bytes.Equal(b, append(bankBytes(), 7, 7, 7)) {
		t.Errorf("the bytes are %v", b)
	}
}

// R4: what is handed out is new memory: it shares none with what was handed in, with another answer, and no two of its lists share any.
func TestLibraryMemory(t *testing.T) {
	in := bankBytes()
	first, _, _ := lang.Decode(in)
	second, _, _ := lang.Decode(in)
	for i := range in {
		in[i] = 99
	}
	if !sameLib(first, bank()) {
		t.Errorf("the library is %v", first)
	}
	list := first[0].Program.Code
	for i := range list[:cap(list)] {
		list[:cap(list)][i] = api.Instr{Op: 99, A: 99}
	}
	if !same(first[1].Program, bank()[1].Program) {
		t.Errorf("the second procedure is %v", first[1])
	}
	for i := range first[:cap(first)] {
		first[:cap(first)][i] = api.Proc{Name: "spoiled"}
	}
	if !sameLib(second, bank()) {
		t.Errorf("the other library is %v", second)
	}
	one, _ := lang.Encode(bank())
	two, _ := lang.Encode(bank())
	for i := range one[:cap(one)] {
		one[:cap(one)][i] = 99
	}
	if !bytes.Equal(two, bankBytes()) {
		t.Errorf("the other bytes are %v", two)
	}
}
