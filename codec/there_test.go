package codec_test

import (
	"bytes"
	"math"
	"math/rand"
	"testing"

	"prelude/api"
	"prelude/codec"
)

// The kinds of calls that both a Writer and a Reader have.
const (
	aByte = iota
	aUint
	anInt
	someBytes
	someRaw
	kinds
)

// call is one call: its kind, and what is written or was read. The length of a Raw is known ahead.
type call struct {
	kind  int
	n     uint64
	bytes []byte
}

// write makes a Writer's calls.
func write(calls []call) []byte {
	w := codec.New()
	for _, c := range calls {
		switch c.kind {
		case aByte:
			w.Byte(byte(c.n))
		case aUint:
			w.Uint(c.n)
		case anInt:
			w.Int(int64(c.n))
		case someBytes:
			w.Bytes(c.bytes)
		case someRaw:
			w.Raw(c.bytes)
		}
	}
	return w.Out()
}

// readSame makes the same calls of a Reader, and is what they read.
func readSame(r *codec.Reader, calls []call) []call {
	var got []call
	for _, c := range calls {
		g := call{kind: c.kind}
		switch c.kind {
		case aByte:
			g.n = uint64(r.Byte())
		case aUint:
			g.n = r.Uint()
		case anInt:
			g.n = uint64(r.Int())
		case someBytes:
			g.bytes = r.Bytes(math.MaxInt)
		case someRaw:
			g.bytes = r.Raw(len(c.bytes))
		}
		got = append(got, g)
	}
	return got
}

// someNumber is a number of any size in bits: each size as often as another.
func someNumber(random *rand.Rand) uint64 { return random.Uint64() >> random.Intn(64) }

// someCalls is calls of all kinds.
func someCalls(random *rand.Rand) []call {
	calls := make([]call, random.Intn(8))
	for i := range calls {
		c := call{kind: random.Intn(kinds)}
		switch c.kind {
		case aByte:
			c.n = uint64(random.Intn(256))
		case aUint:
			c.n = someNumber(random)
		case anInt:
			c.n = someNumber(random)
			if random.Intn(2) == 0 {
				c.n = -c.n
			}
		default:
			c.bytes = make([]byte, random.Intn(1<<random.Intn(9)))
			random.Read(c.bytes)
		}
		calls[i] = c
	}
	return calls
}

// 1.5: what is written is read back, and nothing is left.
func TestThereAndBack(t *testing.T) {
	random := rand.New(rand.NewSource(1))
	for range 20000 {
		calls := someCalls(random)
		r := codec.Read(write(calls))
		got := readSame(r, calls)
		if r.End() != api.OK {
			t.Fatalf("%v: End is %d", calls, r.End())
		}
		for i, c := range calls {
			if got[i].n != c.n || !bytes.Equal(got[i].bytes, c.bytes) {
				t.Fatalf("call %d of %v read %v", i, calls, got[i])
			}
		}
	}
}

// 1.5: the edges of numbers are read back.
func TestEdgesThereAndBack(t *testing.T) {
	for shift := range 64 {
		for off := range uint64(3) {
			n := uint64(1)<<shift - 1 + off
			calls := []call{{kind: aUint, n: n}, {kind: anInt, n: n}, {kind: anInt, n: -n}}
			r := codec.Read(write(calls))
			for i, g := range readSame(r, calls) {
				if g.n != calls[i].n {
					t.Errorf("%d came back as %d", calls[i].n, g.n)
				}
			}
			if r.End() != api.OK {
				t.Errorf("%d: End is %d", n, r.End())
			}
		}
	}
}

// checkOneForm fails if bytes are gone through to the end by calls that would not write the very bytes.
func checkOneForm(t *testing.T, b []byte, calls []call) {
	r := codec.Read(b)
	got := readSame(r, calls)
	if r.End() == api.OK && !bytes.Equal(write(got), b) {
		t.Fatalf("%v was read as %v, which is written %v", b, got, write(got))
	}
}

// 1.5: no number has two forms: every two bytes, with each of the telling bytes behind them.
func TestOneFormOfNumbers(t *testing.T) {
	for n := range 1 << 16 {
		two := []byte{byte(n), byte(n >> 8)}
		for _, kind := range []int{aUint, anInt, someBytes} {
			checkOneForm(t, two, []call{{kind: kind}})
			for _, last := range edgeBytes() {
				checkOneForm(t, append(two, last), []call{{kind: kind}})
			}
		}
	}
}

// edgeBytes is the bytes at which numbers end, go on, or are wrong.
func edgeBytes() []byte { return []byte{0, 1, 2, 127, 128, 129, 255} }

// 1.5: of bytes that are gone through to the end the same calls write the very bytes, also where some of them are turned.
func TestOneForm(t *testing.T) {
	edges := edgeBytes()
	random := rand.New(rand.NewSource(2))
	for range 200000 {
		calls := someCalls(random)
		b := write(calls)
		for range random.Intn(3) {
			if len(b) > 0 {
				b[random.Intn(len(b))] = edges[random.Intn(len(edges))]
			}
		}
		checkOneForm(t, b, calls)
	}
}
