package codec_test

import (
	"bytes"
	"encoding/binary"
	"hash/crc32"
	"math"
	"math/rand"
	"testing"

	"prelude/api"
	"prelude/codec"
)

// plainSum is the check sum, a bit at a time, in the document's words.
func plainSum(b []byte) uint32 {
	r := uint32(math.MaxUint32)
	for _, c := range b {
		for bit := range 8 {
			if uint32(c>>bit&1) != r&1 {
				r = r>>1 ^ 3988292384
			} else {
				r >>= 1
			}
		}
	}
	return ^r
}

// record is a record with any length and any sums that lie where they must.
func record(kind byte, length uint32, load []byte) []byte {
	b := binary.LittleEndian.AppendUint32([]byte{kind}, length)
	b = binary.LittleEndian.AppendUint32(b, plainSum(b))
	b = append(b, load...)
	return binary.LittleEndian.AppendUint32(b, plainSum(load))
}

// 1.6: Sum of what the chapter names.
func TestSumExamples(t *testing.T) {
	if n := codec.Sum(nil); n != 0 {
		t.Errorf("Sum of nothing is %d", n)
	}
	if n := codec.Sum([]byte("123456789")); n != 3421780262 {
		t.Errorf("Sum of 123456789 is %d", n)
	}
}

// 1.6: Sum is the remainder of the rule: every byte, every pair of bytes, longer texts.
func TestSumIsTheRemainder(t *testing.T) {
	check := func(b []byte) {
		if n := codec.Sum(b); n != plainSum(b) || n != crc32.ChecksumIEEE(b) {
			t.Fatalf("Sum of %v is %d, want %d", b, n, plainSum(b))
		}
	}
	for n := range 1 << 16 {
		check([]byte{byte(n)})
		check([]byte{byte(n), byte(n >> 8)})
	}
	random := rand.New(rand.NewSource(3))
	for range 2000 {
		b := make([]byte, random.Intn(200))
		random.Read(b)
		was := bytes.Clone(b)
		check(b)
		if !bytes.Equal(b, was) {
			t.Fatal("Sum changed its bytes")
		}
	}
}

// 1.6: texts that differ within 32 bits side by side have different Sums.
func TestSumTellsBursts(t *testing.T) {
	random := rand.New(rand.NewSource(4))
	b := make([]byte, 20)
	random.Read(b)
	sum := codec.Sum(b)
	for first := 0; first+32 <= 8*len(b); first++ {
		for try := range 64 {
			burst := random.Uint32() | 1
			if try < 32 {
				burst = 1 << try
			}
			turned := bytes.Clone(b)
			for bit := range 32 {
				at := first + bit
				turned[at/8] ^= byte(burst>>bit&1) << (at % 8)
			}
			if codec.Sum(turned) == sum {
				t.Fatalf("the burst %x at bit %d is not told", burst, first)
			}
		}
	}
}

// 1.7: a record's bytes.
func TestSeal(t *testing.T) {
	want := []byte{72, 0, 0, 0, 0, 149, 228, 161, 174, 0, 0, 0, 0}
	if b := codec.Seal(72, nil); !bytes.Equal(b, want) {
		t.Errorf("Seal(72, nothing) is %v", b)
	}
	if b := codec.Seal(72, []byte{}); !bytes.Equal(b, want) {
		t.Errorf("Seal(72, an empty load) is %v", b)
	}
	random := rand.New(rand.NewSource(5))
	for _, size := range []int{1, 3, 255, 256, 65535, 65536, 70000} {
		load := make([]byte, size)
		random.Read(load)
		for _, kind := range []byte{0, 1, 128, 255} {
			if b := codec.Seal(kind, load); len(b) != size+13 || !bytes.Equal(b, record(kind, uint32(size), load)) {
				t.Errorf("Seal(%d, %d bytes) is other bytes", kind, size)
			}
		}
	}
}

// 1.7: MaxLoad, and one past it.
func TestSealLimit(t *testing.T) {
	load := bytes.Repeat([]byte{5}, api.MaxLoad+1)
	if b := codec.Seal(1, load); len(b) != 0 {
		t.Errorf("a load above MaxLoad is a record of %d bytes", len(b))
	}
	b := codec.Seal(1, load[:api.MaxLoad])
	if len(b) != api.MaxLoad+13 {
		t.Fatalf("a load of MaxLoad bytes is a record of %d bytes", len(b))
	}
	if kind, got, next, e := codec.Unseal(b, 0); kind != 1 || !bytes.Equal(got, load[:api.MaxLoad]) || next != len(b) || e != api.OK {
		t.Errorf("it is read as kind %d, %d bytes, up to %d, error %d", kind, len(got), next, e)
	}
}

// 1.7, 1.8, R4: records keep nothing of what was handed in, and share nothing with it.
func TestRecordMemory(t *testing.T) {
	room := []byte{1, 2, 3, 4, 5}
	b := codec.Seal(9, room[:3])
	if !bytes.Equal(room, []byte{1, 2, 3, 4, 5}) {
		t.Fatalf("Seal changed what was handed in: %v", room)
	}
	spoil(room)
	was := bytes.Clone(b)
	_, load, _, e := codec.Unseal(b, 0)
	if !bytes.Equal(load, []byte{1, 2, 3}) || e != api.OK {
		t.Fatalf("the load is %v, error %d", load, e)
	}
	spoil(load)
	if !bytes.Equal(b, was) {
		t.Error("the load shares memory with the bytes that it was read from")
	}
	_, load, _, _ = codec.Unseal(b, 0)
	spoil(b)
	if !bytes.Equal(load, []byte{1, 2, 3}) {
		t.Error("the load changes with the bytes that it was read from")
	}
}

// 1.8: records one behind the other, with bytes ahead of them.
func TestUnsealChain(t *testing.T) {
	b := []byte{99}
	loads := [][]byte{nil, {7}, bytes.Repeat([]byte{3}, 300), {}, {0, 0}}
	for i, load := range loads {
		b = append(b, codec.Seal(byte(250+i), load)...)
	}
	at := 1
	for i, load := range loads {
		kind, got, next, e := codec.Unseal(b, at)
		if kind != byte(250+i) || !bytes.Equal(got, load) || next != at+13+len(load) || e != api.OK {
			t.Fatalf("record %d is kind %d, %v, up to %d, error %d", i, kind, got, next, e)
		}
		at = next
	}
	if at != len(b) {
		t.Errorf("the last record ends at %d of %d", at, len(b))
	}
}

// unsealFails tells whether Unseal answers an error, with zeros beside it.
func unsealFails(b []byte, at int, want api.Errno) bool {
	kind, load, next, e := codec.Unseal(b, at)
	return kind == 0 && len(load) == 0 && next == 0 && e == want
}

// 1.8: each error, and which comes first where several apply.
func TestUnsealErrors(t *testing.T) {
	good := codec.Seal(72, []byte{4, 5, 6})
	turned := func(at int) []byte {
		b := bytes.Clone(good)
		b[at] ^= 16
		return b
	}
	for _, c := range []struct {
		what string
		b    []byte
		at   int
		want api.Errno
	}{
		{"below 0", good, -1, api.ErrForm},
		{"far below 0", good, math.MinInt, api.ErrForm},
		{"at the end", good, len(good), api.ErrShort},
		{"behind the end", good, len(good) + 1, api.ErrForm},
		{"far behind the end", good, math.MaxInt, api.ErrForm},
		{"no bytes", nil, 0, api.ErrShort},
		{"no bytes, at 1", nil, 1, api.ErrForm},
		{"eight bytes that are no head", turned(0)[:8], 0, api.ErrShort},
		{"nine bytes that are no head", turned(0)[:9], 0, api.ErrSum},
		{"nine bytes that are a head", good[:9], 0, api.ErrShort},
		{"another kind", turned(0), 0, api.ErrSum},
		{"another length", turned(1), 0, api.ErrSum},
		{"a length far too great, and a wrong sum", turned(4), 0, api.ErrSum},
		{"another first sum", turned(8), 0, api.ErrSum},
		{"a place within the record", good, 1, api.ErrSum},
		{"another load", turned(9), 0, api.ErrSum},
		{"another last byte of the load", turned(11), 0, api.ErrSum},
		{"another second sum", turned(15), 0, api.ErrSum},
		{"no load", good[:9], 0, api.ErrShort},
		{"half a load", good[:11], 0, api.ErrShort},
		{"no second sum", good[:12], 0, api.ErrShort},
		{"half a second sum", good[:15], 0, api.ErrShort},
		{"another load, and half a second sum", turned(9)[:15], 0, api.ErrShort},
		{"one above MaxLoad, cut", record(1, api.MaxLoad+1, nil), 0, api.ErrBig},
		{"MaxLoad, cut", record(1, api.MaxLoad, nil), 0, api.ErrShort},
		{"the greatest length", record(1, math.MaxUint32, nil), 0, api.ErrBig},
		{"the greatest length as a negative int32", record(1, 1<<31, nil), 0, api.ErrBig},
		{"one above MaxLoad, whole", record(1, api.MaxLoad+1, make([]byte, api.MaxLoad+1)), 0, api.ErrBig},
		{"a length that is one too small", record(1, 2, []byte{4, 5, 6}), 0, api.ErrSum},
		{"a length that is one too great", record(1, 4, []byte{4, 5, 6}), 0, api.ErrShort},
	} {
		if !unsealFails(c.b, c.at, c.want) {
			kind, load, next, e := codec.Unseal(c.b, c.at)
			t.Errorf("%s: %d, %v, %d, error %d; want error %d", c.what, kind, load, next, e, c.want)
		}
	}
}

// 1.8: a record that a crash cut is ErrShort at every place of the cut.
func TestUnsealCuts(t *testing.T) {
	first := codec.Seal(1, []byte{1})
	b := append(bytes.Clone(first), codec.Seal(2, bytes.Repeat([]byte{8}, 40))...)
	for cut := len(first); cut < len(b); cut++ {
		if !unsealFails(b[:cut], len(first), api.ErrShort) {
			t.Errorf("cut at %d is not ErrShort", cut)
		}
		if _, _, next, e := codec.Unseal(b[:cut], 0); next != len(first) || e != api.OK {
			t.Errorf("cut at %d: the first record ends at %d, error %d", cut, next, e)
		}
	}
}

// 1.8: each turned bit of a record is told.
func TestUnsealTurnedBits(t *testing.T) {
	b := codec.Seal(72, []byte("some bytes"))
	for bit := range 8 * len(b) {
		turned := bytes.Clone(b)
		turned[bit/8] ^= 1 << (bit % 8)
		if !unsealFails(turned, 0, api.ErrSum) {
			t.Errorf("bit %d is not told", bit)
		}
	}
}

// 1.8: the chapter's fifth example.
func TestUnsealExample(t *testing.T) {
	b := codec.Seal(72, nil)
	if kind, load, next, e := codec.Unseal(b, 0); kind != 72 || len(load) != 0 || next != 13 || e != api.OK {
		t.Errorf("%d, %v, %d, error %d", kind, load, next, e)
	}
	if !unsealFails(b, 13, api.ErrShort) || !unsealFails(b, 14, api.ErrForm) {
		t.Error("behind its end")
	}
	b[0] ^= 255
	if !unsealFails(b, 0, api.ErrSum) {
		t.Error("with its first byte turned")
	}
}
