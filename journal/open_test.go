package journal_test

import (
	"bytes"
	"fmt"
	"math"
	"slices"
	"testing"

	"prelude/api"
	"prelude/codec"
	"prelude/engine"
	"prelude/journal"
	"prelude/keys"
	"prelude/lang"
)

// overLong is the first nine bytes of a record whose load is longer than may be.
func overLong(kind byte) []byte {
	b := []byte{kind, 1, 0, 0, 1}
	sum := codec.Sum(b)
	return append(b, byte(sum), byte(sum>>8), byte(sum>>16), byte(sum>>24))
}

// parts is a head's load in pieces, that can be changed one by one.
type parts struct {
	mark, capacity, lib, latest, pins, chains []byte
}

// usual is the parts of a head that is taken.
func usual() parts {
	text, _ := lang.Encode(bank())
	return parts{
		mark: []byte("PRJ1"), capacity: []byte{8}, lib: slices.Concat(number(len(text)), text), latest: []byte{5},
		pins: []byte{1, 2, 1}, chains: slices.Concat([]byte{1}, keyBytes(row(1)), []byte{2}, []byte{1, 0, 0}, []byte{3, 63, 1, 20}),
	}
}

// keyBytes is a key's ten bytes.
func keyBytes(k api.Key) []byte {
	b, _ := keys.Bytes(k)
	return b
}

// record is these parts as a head.
func (p parts) record(more ...byte) []byte {
	return codec.Seal(head, slices.Concat(p.mark, p.capacity, p.lib, p.latest, p.pins, p.chains, more))
}

// 17.5: a head that is taken, and what is opened of it.
func TestOpenHead(t *testing.T) {
	for _, l := range layouts() {
		d := opened(t, l, usual().record())
		if !bytes.Equal(d.Bytes(), usual().record()) {
			t.Errorf("Bytes: %v", d.Bytes())
		}
		if v := d.View(); fmt.Sprint(v) != fmt.Sprint(api.View{Latest: 5, Complete: 5, Floor: 5, Charge: 2, Live: 2, Pins: []api.Pin{{Batch: 2, Count: 1}}}) {
			t.Errorf("View: %v", v)
		}
		reads(t, d, 2, row(1), api.Cell{})
		if c, f := d.Last(row(1)); c != value(10) || f != api.OK {
			t.Errorf("Last: %v, %d", c, f)
		}
		posts(t, d, 6, bump(1))
	}
}

// 17.5: what is wrong with the record of the head.
func TestOpenNoHead(t *testing.T) {
	whole := usual().record()
	for size := range whole {
		refuses(t, "cut", whole[:size], 0, api.ErrHead)
	}
	refuses(t, "eight zeros", make([]byte, 8), 0, api.ErrHead)
	refuses(t, "nine zeros", make([]byte, 9), 0, api.ErrSum)
	refuses(t, "a long load", overLong(head), 0, api.ErrBig)
	refuses(t, "a long load of another kind", overLong(lot), 0, api.ErrBig)
	for i := range whole {
		bad := bytes.Clone(whole)
		bad[i] ^= 1 << (i % 8)
		refuses(t, "a wrong byte", bad, 0, api.ErrSum)
		refuses(t, "a wrong byte, and records", slices.Concat(bad, codec.Seal(collect, nil)), 0, api.ErrSum)
	}
	load := headLoad(8, bank(), api.Snapshot{})
	for kind := range 256 {
		if kind != head {
			refuses(t, "another kind", codec.Seal(byte(kind), load), 0, api.ErrHead)
			refuses(t, "another kind without a load", codec.Seal(byte(kind), nil), 0, api.ErrHead)
			refuses(t, "another kind ahead", slices.Concat(codec.Seal(byte(kind), nil), whole), 0, api.ErrHead)
		}
	}
}

// 17.5: what a load must begin with.
func TestOpenVersion(t *testing.T) {
	for _, begin := range []string{"", "P", "PR", "PRJ", "PRJ2", "PRJ0", "prj1", "PRL1", "1JRP", " PRJ1", "PRJ\x00", "XRJ1", "PXJ1", "PRX1"} {
		refuses(t, begin, codec.Seal(head, []byte(begin)), 0, api.ErrVersion)
		if len(begin) >= 4 {
			p := usual()
			p.mark = []byte(begin)
			refuses(t, begin, p.record(), 0, api.ErrVersion)
			refuses(t, begin, codec.Seal(head, append([]byte(begin), 255, 255)), 0, api.ErrVersion)
		}
	}
}

// huge is a number without sign just above so much, as bytes.
func huge(most uint64) []byte {
	w := codec.New()
	w.Uint(most + 1)
	return w.Out()
}

// 17.5: what is wrong with the rest of a head's load.
func TestOpenForm(t *testing.T) {
	k1, k2 := keyBytes(row(1)), keyBytes(row(2))
	badName, _ := lang.Encode([]api.Proc{{Name: "a"}})
	badName = bytes.Replace(badName, []byte("a"), []byte("1"), 1)
	badCode, _ := lang.Encode([]api.Proc{{Name: "a", Program: api.Program{Code: []api.Instr{{Op: api.IPush}}}}})
	badCode[len(badCode)-1] = api.IPop
	text, _ := lang.Encode(bank())
	for i, change := range []func(p *parts){
		func(p *parts) { p.capacity = huge(api.MaxCapacity) },
		func(p *parts) { p.capacity = huge(math.MaxUint64 - 1) },
		func(p *parts) { p.capacity = []byte{136, 0} },
		func(p *parts) { p.lib = []byte{0} },
		func(p *parts) { p.lib = []byte{4, 80, 82, 76, 49} },
		func(p *parts) { p.lib = []byte{5, 80, 82, 76, 50, 0} },
		func(p *parts) { p.lib = []byte{6, 80, 82, 76, 49, 0, 0} },
		func(p *parts) { p.lib = []byte{133, 0, 80, 82, 76, 49, 0} },
		func(p *parts) { p.lib = huge(api.MaxLoad) },
		func(p *parts) { p.lib = huge(math.MaxUint64 - 1) },
		func(p *parts) { p.lib = slices.Concat(number(len(text)+1), text) },
		func(p *parts) { p.lib = slices.Concat(number(len(text)-1), text) },
		func(p *parts) { p.lib = slices.Concat(number(len(badName)), badName) },
		func(p *parts) { p.lib = slices.Concat(number(len(badCode)), badCode) },
		func(p *parts) { p.latest = huge(api.MaxNumber) },
		func(p *parts) { p.latest = []byte{133, 0} },
		func(p *parts) { p.pins = huge(api.MaxPins) },
		func(p *parts) { p.pins = slices.Concat([]byte{33}, make([]byte, 66)) },
		func(p *parts) { p.pins = slices.Concat([]byte{1}, huge(api.MaxNumber), []byte{1}) },
		func(p *parts) { p.pins = slices.Concat([]byte{1, 2}, huge(api.MaxNumber)) },
		func(p *parts) { p.pins = []byte{1, 130, 0, 1} },
		func(p *parts) { p.pins = []byte{1, 2, 129, 0} },
		func(p *parts) { p.pins = []byte{129, 0, 2, 1} },
		func(p *parts) { p.chains = huge(api.MaxCapacity) },
		func(p *parts) { p.chains = []byte{129, 0} },
		func(p *parts) { p.chains = slices.Concat([]byte{1}, k1, huge(api.MaxCapacity)) },
		func(p *parts) { p.chains = slices.Concat([]byte{1}, k1, []byte{129, 0, 1, 0, 0}) },
		func(p *parts) { p.chains = slices.Concat([]byte{1}, k1, []byte{1}, huge(api.MaxNumber), []byte{0, 0}) },
		func(p *parts) { p.chains = slices.Concat([]byte{1}, k1, []byte{1, 1, api.MaxTxs, 0}) },
		func(p *parts) { p.chains = slices.Concat([]byte{1}, k1, []byte{1, 1, 128, 0, 0}) },
		func(p *parts) { p.chains = slices.Concat([]byte{1}, k1, []byte{1, 1, 0, 2}) },
		func(p *parts) { p.chains = slices.Concat([]byte{1}, k1, []byte{1, 1, 0, 2, 0}) },
		func(p *parts) { p.chains = slices.Concat([]byte{1}, k1, []byte{1, 1, 0, 255, 0}) },
		func(p *parts) { p.chains = slices.Concat([]byte{1}, k1, []byte{1, 1, 0, 128, 0}) },
		func(p *parts) { p.chains = slices.Concat([]byte{1}, k1, []byte{1, 1, 0, 129, 0, 0}) },
		func(p *parts) { p.chains = slices.Concat([]byte{1}, k1, []byte{1, 1, 0, 0, 0}) },
		func(p *parts) { p.chains = slices.Concat([]byte{1}, k1, []byte{1, 1, 0, 1, 128, 0}) },
		func(p *parts) { p.chains = slices.Concat([]byte{1}, k1, []byte{1, 1, 0, 1}) },
		func(p *parts) { p.chains = slices.Concat([]byte{2}, k1, []byte{1, 1, 0, 0}, k2[:9]) },
		func(p *parts) { p.chains = slices.Concat([]byte{2}, k1, []byte{1, 1, 0, 0}) },
		func(p *parts) { p.chains = slices.Concat([]byte{1}, k1, []byte{1, 1, 0, 0}, k2, []byte{1, 1, 0, 0}) },
	} {
		p := usual()
		change(&p)
		refuses(t, fmt.Sprint("change ", i), p.record(), 0, api.ErrForm)
		refuses(t, fmt.Sprint("change ", i, " and a record"), slices.Concat(p.record(), codec.Seal(88, nil)), 0, api.ErrForm)
	}
	refuses(t, "a byte more", usual().record(0), 0, api.ErrForm)
}

// 17.5: a load that is cut anywhere is none.
func TestOpenFormCut(t *testing.T) {
	s := api.Snapshot{Latest: 300, Pins: []api.Pin{{Batch: 1, Count: 128}}, Chains: []api.Chain{
		{Key: row(1), Versions: []api.Stamp{{Batch: 1, Index: 1, Cell: value(1000)}, {Batch: 200, Index: 0}}},
		{Key: row(2), Versions: []api.Stamp{{Batch: 299, Index: 63, Cell: value(-1)}}},
	}}
	load := headLoad(300, bank(), s)
	opened(t, one(), codec.Seal(head, load))
	for size := range load {
		want := api.ErrForm
		if size < 4 {
			want = api.ErrVersion
		}
		refuses(t, fmt.Sprint("cut at ", size), codec.Seal(head, load[:size]), 0, want)
	}
	refuses(t, "a byte more", codec.Seal(head, append(load, 0)), 0, api.ErrForm)
}

// 17.5: the errors of Restore, behind those of the head and ahead of those of the records.
func TestOpenRestores(t *testing.T) {
	k1, k2 := keyBytes(row(1)), keyBytes(row(2))
	none := func(p *parts) {}
	for i, c := range []struct {
		l      api.Layout
		change func(p *parts)
		want   api.Errno
	}{
		{one(), func(p *parts) { p.capacity = []byte{0} }, api.ErrCapacity},
		{api.Layout{}, func(p *parts) { p.capacity = []byte{0} }, api.ErrCapacity},
		{api.Layout{}, none, api.ErrWorkers},
		{api.Layout{Workers: 65}, none, api.ErrWorkers},
		{api.Layout{Workers: 1}, none, api.ErrHands},
		{api.Layout{Workers: 1, Hands: 1, Parts: -1}, none, api.ErrParts},
		{api.Layout{Workers: 1, Hands: 1, Parts: 1, Ahead: 17}, none, api.ErrAhead},
		{api.Layout{}, func(p *parts) { p.pins = []byte{0} }, api.ErrWorkers},
		{one(), func(p *parts) { p.pins = []byte{0} }, api.ErrImage},
		{one(), func(p *parts) { p.pins = []byte{1, 2, 0} }, api.ErrImage},
		{one(), func(p *parts) { p.pins = []byte{1, 6, 1} }, api.ErrImage},
		{one(), func(p *parts) { p.pins = []byte{2, 2, 1, 2, 1} }, api.ErrImage},
		{one(), func(p *parts) { p.pins = []byte{2, 2, 1, 1, 1} }, api.ErrImage},
		{one(), func(p *parts) { p.latest = []byte{2} }, api.ErrImage},
		{one(), func(p *parts) { p.chains = slices.Concat([]byte{1}, k1, []byte{0}) }, api.ErrImage},
		{one(), func(p *parts) { p.chains = slices.Concat([]byte{1}, k1, []byte{1, 0, 0, 0}) }, api.ErrImage},
		{one(), func(p *parts) { p.chains = slices.Concat([]byte{1}, k1, []byte{1, 6, 0, 0}) }, api.ErrImage},
		{one(), func(p *parts) {
			p.chains = slices.Concat([]byte{2}, k2, []byte{1, 1, 0, 0}, k1, []byte{1, 1, 0, 0})
		}, api.ErrImage},
		{one(), func(p *parts) {
			p.chains = slices.Concat([]byte{2}, k1, []byte{1, 1, 0, 0}, k1, []byte{1, 1, 0, 0})
		}, api.ErrImage},
		{one(), func(p *parts) { p.capacity = []byte{1} }, api.ErrRoom},
		{one(), func(p *parts) { p.capacity, p.pins = []byte{1}, []byte{0} }, api.ErrImage},
	} {
		p := usual()
		c.change(&p)
		for _, behind := range [][]byte{nil, codec.Seal(88, nil), codec.Seal(head, nil), {1, 2}, make([]byte, 9)} {
			if d, err := journal.Open(c.l, slices.Concat(p.record(), behind)); d != nil || err != error(c.want) {
				t.Errorf("head %d: %v, %v, not %d", i, d, err, c.want)
			}
		}
	}
	_, err := journal.Open(api.Layout{}, usual().record(0))
	at(t, "a head that is wrong, and a layout that is none", err, 0, api.ErrForm)
	_, err = journal.Open(api.Layout{}, codec.Seal(88, nil))
	at(t, "no head, and a layout that is none", err, 0, api.ErrHead)
}

// 17.5: the greatest of each kind is taken.
func TestOpenLimits(t *testing.T) {
	s := api.Snapshot{Latest: api.MaxNumber}
	for n := api.MaxNumber - api.MaxPins; n < api.MaxNumber; n++ {
		s.Pins = append(s.Pins, api.Pin{Batch: n, Count: api.MaxNumber})
	}
	c := api.Chain{Key: highest()}
	for n := api.MaxNumber - api.MaxPins; n <= api.MaxNumber; n++ {
		c.Versions = append(c.Versions, api.Stamp{Batch: n, Index: api.MaxTxs - 1, Cell: value(math.MinInt64)})
	}
	s.Chains = []api.Chain{{Key: lowest(), Versions: []api.Stamp{{Batch: 1}}}, c}
	data := codec.Seal(head, headLoad(api.MaxCapacity, greatest(), s))
	d := opened(t, one(), data)
	if !bytes.Equal(d.Bytes(), data) {
		t.Error("Bytes are others")
	}
	if v := d.View(); v.Latest != api.MaxNumber || v.Charge != 34 || !slices.Equal(v.Pins, s.Pins) {
		t.Errorf("View: %v", v)
	}
	reads(t, d, api.MaxNumber-1, highest(), value(math.MinInt64))
	e, _ := engine.Restore(one(), greatest(), api.MaxCapacity, s)
	if got, want := fmt.Sprint(d.Snapshot()), fmt.Sprint(e.Snapshot()); got != want {
		t.Errorf("Snapshot: %s, not %s", got, want)
	}
}

// 17.5: more chains and versions than have room are no fault of form.
func TestOpenManyChains(t *testing.T) {
	s := api.Snapshot{Latest: 1}
	for i := range api.MaxCapacity {
		s.Chains = append(s.Chains, api.Chain{Key: row(int64(i)), Versions: []api.Stamp{{Batch: 1}}})
	}
	data := codec.Seal(head, headLoad(api.MaxCapacity, nil, s))
	if v := opened(t, one(), data).View(); v.Charge != api.MaxCapacity {
		t.Errorf("View: %v", v)
	}
	if _, err := journal.Open(one(), codec.Seal(head, headLoad(api.MaxCapacity-1, nil, s))); err != error(api.ErrRoom) {
		t.Errorf("%v", err)
	}
	one1 := api.Chain{Key: row(1), Versions: slices.Repeat([]api.Stamp{{Batch: 1}}, api.MaxCapacity)}
	if _, err := journal.Open(one(), codec.Seal(head, headLoad(8, nil, api.Snapshot{Latest: 1, Chains: []api.Chain{one1}}))); err != error(api.ErrImage) {
		t.Errorf("%v", err)
	}
	one1.Versions = append(one1.Versions, api.Stamp{Batch: 1})
	refuses(t, "a version too many", codec.Seal(head, headLoad(8, nil, api.Snapshot{Latest: 1, Chains: []api.Chain{one1}})), 0, api.ErrForm)
	s.Chains = append(s.Chains, api.Chain{Key: row(api.MaxCapacity), Versions: []api.Stamp{{Batch: 1}}})
	refuses(t, "a chain too many", codec.Seal(head, headLoad(8, nil, s)), 0, api.ErrForm)
}
