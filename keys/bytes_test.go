package keys_test

import (
	"bytes"
	"encoding/binary"
	"hash/fnv"
	"math"
	"math/rand"
	"testing"

	"prelude/api"
	"prelude/keys"
)

// bytesOf is a key's bytes.
func bytesOf(t *testing.T, k api.Key) []byte {
	t.Helper()
	b, e := keys.Bytes(k)
	if e != api.OK || len(b) != 10 {
		t.Fatalf("Bytes(%v) is %v, %d", k, b, e)
	}
	return b
}

// 2.5: keys' bytes, the chapter's examples among them.
func TestBytes(t *testing.T) {
	for _, c := range []struct {
		k    api.Key
		want []byte
	}{
		{key(1, 0), []byte{0, 1, 0x80, 0, 0, 0, 0, 0, 0, 0}},
		{key(1, -1), []byte{0, 1, 0x7f, 0xff, 0xff, 0xff, 0xff, 0xff, 0xff, 0xff}},
		{key(0, math.MinInt64), []byte{0, 0, 0, 0, 0, 0, 0, 0, 0, 0}},
		{key(65535, math.MaxInt64), []byte{255, 255, 255, 255, 255, 255, 255, 255, 255, 255}},
		{key(0x1234, 0x0102030405060708), []byte{0x12, 0x34, 0x81, 2, 3, 4, 5, 6, 7, 8}},
		{key(256, 1), []byte{1, 0, 0x80, 0, 0, 0, 0, 0, 0, 1}},
	} {
		if b := bytesOf(t, c.k); !bytes.Equal(b, c.want) {
			t.Errorf("Bytes(%v) is %v", c.k, b)
		}
		if k, e := keys.FromBytes(c.want); k != c.k || e != api.OK {
			t.Errorf("FromBytes(%v) is %v, %d", c.want, k, e)
		}
	}
}

// 2.5: the bytes of no key.
func TestBytesOfNoKey(t *testing.T) {
	for _, k := range noKeys() {
		if b, e := keys.Bytes(k); len(b) != 0 || e != api.ErrKey {
			t.Errorf("Bytes(%v) is %v, %d", k, b, e)
		}
	}
}

// 2.5, 2.11: there and back; and the bytes are in the order of the keys.
func TestBytesThereAndBack(t *testing.T) {
	l := rungs()
	for i, k := range l {
		b := bytesOf(t, k)
		want := binary.BigEndian.AppendUint16(nil, uint16(k.Table))
		want = binary.BigEndian.AppendUint64(want, uint64(k.Row)^(1<<63))
		if !bytes.Equal(b, want) {
			t.Errorf("Bytes(%v) is %v", k, b)
		}
		if back, e := keys.FromBytes(b); back != k || e != api.OK {
			t.Errorf("FromBytes of the bytes of %v is %v, %d", k, back, e)
		}
		for _, other := range l[:i] {
			if bytes.Compare(bytesOf(t, other), b) != keys.Compare(other, k) {
				t.Errorf("the bytes of %v and %v are in another order", other, k)
			}
		}
	}
}

// 2.5: any ten bytes are those of one key.
func TestFromBytesAny(t *testing.T) {
	random := rand.New(rand.NewSource(1))
	for range 10000 {
		b := make([]byte, 10)
		random.Read(b)
		k, e := keys.FromBytes(b)
		if e != api.OK || keys.Check(k) != api.OK || !bytes.Equal(bytesOf(t, k), b) {
			t.Errorf("FromBytes(%v) is %v, %d", b, k, e)
		}
	}
}

// 2.5: other numbers of bytes.
func TestFromBytesRefuses(t *testing.T) {
	for n := range 40 {
		want := api.OK
		if n < 10 {
			want = api.ErrShort
		} else if n > 10 {
			want = api.ErrForm
		}
		b := bytes.Repeat([]byte{255}, n)
		k, e := keys.FromBytes(b)
		if e != want || e != api.OK && k != (api.Key{}) {
			t.Errorf("FromBytes of %d bytes is %v, %d", n, k, e)
		}
	}
	if k, e := keys.FromBytes(nil); k != (api.Key{}) || e != api.ErrShort {
		t.Errorf("FromBytes(nil) is %v, %d", k, e)
	}
	// What lies behind the end is no part of the bytes.
	if _, e := keys.FromBytes(make([]byte, 9, 10)); e != api.ErrShort {
		t.Errorf("FromBytes of nine bytes with room for ten is %d", e)
	}
	if _, e := keys.FromBytes(make([]byte, 10, 20)); e != api.OK {
		t.Errorf("FromBytes of ten bytes with room for more is %d", e)
	}
}

// 2.1: the bytes that come out are new, and those that go in are not changed.
func TestBytesMemory(t *testing.T) {
	k := key(7, -12)
	a, b := bytesOf(t, k), bytesOf(t, k)
	for i := range a[:cap(a)] {
		a[:cap(a)][i] ^= 255
	}
	if c := bytesOf(t, k); !bytes.Equal(b, c) || bytes.Equal(a, c) {
		t.Errorf("the bytes of %v are %v and %v", k, b, c)
	}
	in := append(bytes.Clone(b), 1, 2, 3)
	keys.FromBytes(in[:10])
	if !bytes.Equal(in, append(b, 1, 2, 3)) {
		t.Errorf("FromBytes has changed its bytes to %v", in)
	}
}

// 2.6: Hash, by numbers that are known, and against FNV-1a as the library has it.
func TestHash(t *testing.T) {
	for _, c := range []struct {
		k    api.Key
		want uint64
	}{
		{key(0, 0), 0xec6f8346a951df0d},
		{key(7, -12), 0x8830e42ecfc5d8b1},
		{key(65535, math.MaxInt64), 0xe1a659b789f86a3b},
	} {
		if h := keys.Hash(c.k); h != c.want {
			t.Errorf("Hash(%v) is %#x", c.k, h)
		}
	}
	for _, k := range rungs() {
		h := fnv.New64a()
		h.Write(bytesOf(t, k))
		if got := keys.Hash(k); got != h.Sum64() {
			t.Errorf("Hash(%v) is %#x", k, got)
		}
	}
}

// 2.6: the hash of no key.
func TestHashOfNoKey(t *testing.T) {
	for _, k := range noKeys() {
		if h := keys.Hash(k); h != 0 {
			t.Errorf("Hash(%v) is %#x", k, h)
		}
	}
}

// 2.6: Partition is the hash modulo the number of partitions.
func TestPartition(t *testing.T) {
	for _, k := range rungs() {
		if p, e := keys.Partition(k, 1); p != 0 || e != api.OK {
			t.Errorf("Partition(%v, 1) is %d, %d", k, p, e)
		}
		for _, parts := range []int{2, 3, 7, 8, 100, 255, 256} {
			if p, e := keys.Partition(k, parts); p != int(keys.Hash(k)%uint64(parts)) || e != api.OK {
				t.Errorf("Partition(%v, %d) is %d, %d", k, parts, p, e)
			}
		}
	}
	// A hash above 2^63, as a number without sign: 0x8830e42ecfc5d8b1 modulo 10 and 256.
	if p, e := keys.Partition(key(7, -12), 10); p != 5 || e != api.OK {
		t.Errorf("Partition of 10 is %d, %d", p, e)
	}
	if p, e := keys.Partition(key(7, -12), 256); p != 0xb1 || e != api.OK {
		t.Errorf("Partition of 256 is %d, %d", p, e)
	}
}

// 2.6: no key, no number of partitions, and which of both is told first.
func TestPartitionRefuses(t *testing.T) {
	for _, parts := range []int{0, -1, 257, 512, 1 << 32, math.MaxInt, math.MinInt} {
		if p, e := keys.Partition(key(3, 4), parts); p != 0 || e != api.ErrParts {
			t.Errorf("Partition of %d is %d, %d", parts, p, e)
		}
		if p, e := keys.Partition(key(-1, 0), parts); p != 0 || e != api.ErrKey {
			t.Errorf("Partition of no key and %d is %d, %d", parts, p, e)
		}
	}
	for _, k := range noKeys() {
		if p, e := keys.Partition(k, 16); p != 0 || e != api.ErrKey {
			t.Errorf("Partition(%v, 16) is %d, %d", k, p, e)
		}
	}
}
