package batch_test

import (
	"bytes"
	"encoding/binary"
	"math/rand"
	"slices"
	"strconv"
	"testing"

	"prelude/api"
	"prelude/batch"
	"prelude/lang"
	"prelude/vm"
)

// part is what stands at a place of a batch's bytes: a number of at most so much, an Arg, or a key of a set.
type part struct {
	kind int
	most uint64
}

const (
	aNumber = iota
	anArg
	aKey
)

// model reads bytes by a list of the parts that are still to come: a second way to read chapter 6.
func model(data []byte) ([]api.Tx, int, api.Errno) {
	var b []api.Tx
	at := 0
	for left := []part{{aNumber, 64}}; len(left) > 0; left = left[1:] {
		p := left[0]
		if p.kind == aKey {
			if len(data)-at < 10 {
				return nil, at, api.ErrShort
			}
			// The bytes of keys are in their order; a first key has most 1, and nothing ahead of it.
			if p.most == 0 && bytes.Compare(data[at-10:at], data[at:at+10]) >= 0 {
				return nil, at, api.ErrSet
			}
			k := api.Key{Table: int(binary.BigEndian.Uint16(data[at:])), Row: int64(binary.BigEndian.Uint64(data[at+2:]) - 1<<63)}
			lay(&b[len(b)-1], left, k)
			at += 10
			continue
		}
		n, size, e := modelNumber(data[at:])
		if e == api.OK && p.kind == aNumber && n > p.most {
			e = api.ErrBig
		}
		if e != api.OK {
			return nil, at, e
		}
		at += size
		if p.kind == anArg {
			b[len(b)-1].Args = append(b[len(b)-1].Args, int64(n>>1)^-int64(n&1))
			continue
		}
		switch {
		case b == nil:
			b = []api.Tx{}
			left = append([]part{{}}, slices.Repeat([]part{{aNumber, 63}, {aNumber, 16}, {aNumber, 16}, {aNumber, 16}}, int(n))...)
		case len(left)%4 == 0:
			b = append(b, api.Tx{Proc: int(n)})
		case len(left)%4 == 3:
			left = insert(left, slices.Repeat([]part{{anArg, 0}}, int(n)))
		case n > 0:
			left = insert(left, append([]part{{aKey, 1}}, slices.Repeat([]part{{aKey, 0}}, int(n)-1)...))
		}
	}
	if at < len(data) {
		return nil, at, api.ErrForm
	}
	return b, 0, api.OK
}

// insert puts parts behind the first one.
func insert(left, more []part) []part { return slices.Concat(left[:1], more, left[1:]) }

// lay adds a key to Reads or Writes, by whether the number of Writes is still to come.
func lay(tx *api.Tx, left []part, k api.Key) {
	numbers := 0
	for _, p := range left {
		if p.kind == aNumber {
			numbers++
		}
	}
	if numbers%4 == 1 {
		tx.Reads = append(tx.Reads, k)
	} else {
		tx.Writes = append(tx.Writes, k)
	}
}

// modelNumber is the number at the front of bytes, by the library.
func modelNumber(b []byte) (uint64, int, api.Errno) {
	for i := range b {
		if i == 9 && b[i] > 1 || i > 0 && b[i] == 0 {
			return 0, 0, api.ErrForm
		}
		if b[i] < 128 {
			n, size := binary.Uvarint(b)
			return n, size, api.OK
		}
	}
	return 0, 0, api.ErrShort
}

// agrees asks that Decode answers as the model, and that what it takes is written as the very bytes.
func agrees(t *testing.T, data []byte) api.Errno {
	t.Helper()
	b, at, e := batch.Decode(data)
	wantB, wantAt, want := model(data)
	if !same(b, wantB) || at != wantAt || e != want {
		t.Fatalf("Decode of %v is %v, %d, %d, want %v, %d, %d", data, b, at, e, wantB, wantAt, want)
	}
	if e == api.OK {
		if again, e := batch.Encode(b); e != api.OK || !bytes.Equal(again, data) {
			t.Fatalf("%v was read as %v, which is written %v, %d", data, b, again, e)
		}
	}
	return e
}

// someSet is a set of at most so many keys that lie close together.
func someSet(random *rand.Rand, most int) []api.Key {
	var set []api.Key
	k := api.Key{Table: random.Intn(3), Row: int64(random.Intn(5) - 2)}
	for range random.Intn(most + 1) {
		set = append(set, k)
		if random.Intn(4) == 0 {
			k = api.Key{Table: k.Table + 1 + random.Intn(300), Row: int64(random.Uint64())}
		} else if next := k.Row + 1 + int64(random.Intn(300)); next > k.Row {
			k.Row = next
		} else {
			k.Table++
		}
	}
	return set
}

// someBatch is a well-formed batch of at most so many transactions.
func someBatch(random *rand.Rand, most int) []api.Tx {
	var b []api.Tx
	for range random.Intn(most + 1) {
		tx := api.Tx{Proc: random.Intn(api.MaxProcs), Reads: someSet(random, api.MaxReads), Writes: someSet(random, api.MaxWrites)}
		for range random.Intn(api.MaxArgs + 1) {
			tx.Args = append(tx.Args, int64(random.Uint64()>>random.Intn(64))*int64(random.Intn(3)-1))
		}
		b = append(b, tx)
	}
	return b
}

// 6.7: what is written is read back, and is in one form.
func TestThereAndBack(t *testing.T) {
	random := rand.New(rand.NewSource(6))
	for range 3000 {
		b := someBatch(random, 6)
		data, e := batch.Encode(b)
		if e != api.OK {
			t.Fatalf("%v: %d", b, e)
		}
		if got, at, e := batch.Decode(data); e != api.OK || at != 0 || !same(got, b) {
			t.Fatalf("%v came back as %v, %d, %d", b, got, at, e)
		}
		agrees(t, data)
	}
}

// 6.7: the beginning of a batch's bytes is too short, at every cut; more bytes are refused at the first of them.
func TestCutAndMore(t *testing.T) {
	random := rand.New(rand.NewSource(7))
	for range 300 {
		data, _ := batch.Encode(someBatch(random, 4))
		for n := range data {
			if e := agrees(t, data[:n]); e != api.ErrShort {
				t.Fatalf("%d bytes of %v: %d", n, data, e)
			}
		}
		for range 10 {
			more := make([]byte, 1+random.Intn(20))
			random.Read(more)
			unread(t, len(data), api.ErrForm, slices.Concat(data, more)...)
		}
	}
}

// 6.3, 6.7: bytes of a batch some of which are turned, are read as the model reads them; what is refused by another error than ErrShort is so whatever follows.
func TestTurned(t *testing.T) {
	random := rand.New(rand.NewSource(8))
	edges := []byte{0, 1, 2, 16, 17, 63, 64, 65, 127, 128, 129, 255}
	seen := make([]int, api.ErrSet+1)
	for range 60000 {
		data, _ := batch.Encode(someBatch(random, 3))
		for range 1 + random.Intn(2) {
			i := random.Intn(min(len(data), 1<<random.Intn(9)))
			data[i] = edges[random.Intn(len(edges))]
		}
		e := agrees(t, data)
		seen[e]++
		if e == api.OK || e == api.ErrShort {
			continue
		}
		_, at, _ := batch.Decode(data)
		more := make([]byte, 1+random.Intn(20))
		random.Read(more)
		unread(t, at, e, slices.Concat(data, more)...)
	}
	for _, e := range []api.Errno{api.OK, api.ErrShort, api.ErrForm, api.ErrBig, api.ErrSet} {
		if seen[e] < 100 {
			t.Errorf("error %d came %d times: too seldom to tell anything", e, seen[e])
		}
	}
}

// 6.3, 6.7: all rows of up to four telling bytes.
func TestShortBytes(t *testing.T) {
	edges := []byte{0, 1, 2, 16, 17, 63, 64, 65, 127, 128, 255}
	all := [][]byte{nil}
	for len(all) > 0 {
		data := all[0]
		all = all[1:]
		agrees(t, data)
		if len(data) < 4 {
			for _, c := range edges {
				all = append(all, append(slices.Clone(data), c))
			}
		}
	}
}

// someLibrary is a library whose programs ask for different numbers of things, and use them.
func someLibrary(random *rand.Rand) []api.Proc {
	var lib []api.Proc
	for i := range 1 + random.Intn(3) {
		p := api.Program{Args: random.Intn(3), Reads: random.Intn(3), Writes: random.Intn(3)}
		for a := range p.Args {
			p.Code = append(p.Code, api.Instr{Op: api.IArg, A: int64(a)}, api.Instr{Op: api.IOut})
		}
		for r := range p.Reads {
			p.Code = append(p.Code, api.Instr{Op: api.IGet, A: int64(r)}, api.Instr{Op: api.IOut})
		}
		for w := range p.Writes {
			p.Code = append(p.Code, api.Instr{Op: api.IDel, A: int64(w)})
		}
		lib = append(lib, api.Proc{Name: "p" + strconv.Itoa(i), Program: p})
	}
	return lib
}

// 6.8: what Check takes, Encode takes; what Accept takes, the machine takes.
func TestSoundRuns(t *testing.T) {
	random := rand.New(rand.NewSource(9))
	taken := 0
	for range 20000 {
		lib := someLibrary(random)
		if _, e := lang.Check(lib); e != api.OK {
			t.Fatal(e)
		}
		var b []api.Tx
		for range random.Intn(3) {
			p := lib[random.Intn(len(lib))].Program
			b = append(b, api.Tx{Proc: random.Intn(len(lib)), Args: make([]int64, p.Args), Reads: rising(p.Reads), Writes: rising(p.Writes)})
		}
		_, checked := batch.Check(lib, b)
		data, e := batch.Encode(b)
		if e != api.OK {
			t.Fatalf("Check of %v is %d, Encode %d", b, checked, e)
		}
		got, err := batch.Accept(lib, data)
		if (err == nil) != (checked == api.OK) {
			t.Fatalf("Check of %v is %d, Accept %v", b, checked, err)
		}
		for _, tx := range got {
			taken++
			if _, e := vm.Run(lib[tx.Proc].Program, tx.Args, make([]api.Cell, len(tx.Reads))); e != api.OK {
				t.Fatalf("%v of %v: %d", tx, lib, e)
			}
		}
	}
	if taken < 1000 {
		t.Errorf("%d transactions are too few to tell anything", taken)
	}
}
