package journal_test

import (
	"bytes"
	"fmt"
	"slices"
	"testing"

	"prelude/api"
	"prelude/codec"
)

// 17.5: what is wrong with a record behind the head, wherever it stands.
func TestOpenRecords(t *testing.T) {
	d := written(t, one(), 12, some()...)
	all := d.Bytes()
	for kind := range 256 {
		if slices.Contains([]int{lot, pin, unpin, collect}, kind) {
			continue
		}
		for _, load := range [][]byte{nil, {0}, {1}, headLoad(12, bank(), api.Snapshot{})} {
			refuses(t, fmt.Sprint("kind ", kind), slices.Concat(all, codec.Seal(byte(kind), load)), len(all), api.ErrRecord)
		}
	}
	for _, c := range []struct {
		what string
		b    []byte
		want api.Errno
	}{
		{"a collect with a load", codec.Seal(collect, []byte{0}), api.ErrRecord},
		{"a collect with a long load", codec.Seal(collect, make([]byte, 300)), api.ErrRecord},
		{"a pin without a load", codec.Seal(pin, nil), api.ErrRecord},
		{"a pin of two numbers", codec.Seal(pin, []byte{5, 5}), api.ErrRecord},
		{"a pin of half a number", codec.Seal(pin, []byte{133}), api.ErrRecord},
		{"a pin of a number in too many bytes", codec.Seal(pin, []byte{133, 0}), api.ErrRecord},
		{"a pin of too great a number", codec.Seal(pin, huge(api.MaxNumber)), api.ErrRecord},
		{"a pin of the greatest of all", codec.Seal(pin, []byte{255, 255, 255, 255, 255, 255, 255, 255, 255, 1}), api.ErrRecord},
		{"an unpin without a load", codec.Seal(unpin, nil), api.ErrRecord},
		{"an unpin of two numbers", codec.Seal(unpin, []byte{5, 0}), api.ErrRecord},
		{"an unpin of a number in too many bytes", codec.Seal(unpin, []byte{133, 0}), api.ErrRecord},
		{"an unpin of too great a number", codec.Seal(unpin, huge(api.MaxNumber)), api.ErrRecord},
		{"a pin of what is not there", codec.Seal(pin, []byte{6}), api.ErrReplay},
		{"a pin of the greatest number", codec.Seal(pin, number(api.MaxNumber)), api.ErrReplay},
		{"a pin of what lies below the floor", codec.Seal(pin, []byte{4}), api.ErrReplay},
		{"an unpin of what is not pinned", codec.Seal(unpin, []byte{1}), api.ErrReplay},
		{"an unpin of the greatest number", codec.Seal(unpin, number(api.MaxNumber)), api.ErrReplay},
		{"no batch", codec.Seal(lot, nil), api.ErrReplay},
		{"half a batch", codec.Seal(lot, []byte{7}), api.ErrReplay},
		{"a batch and a byte", codec.Seal(lot, []byte{0, 0}), api.ErrReplay},
		{"a batch that is not sound", codec.Seal(lot, encoded(api.Tx{Proc: 63})), api.ErrReplay},
		{"a batch that has no room", codec.Seal(lot, encoded(slices.Repeat([]api.Tx{put(1, 1)}, 12)...)), api.ErrReplay},
		{"a long load", overLong(lot), api.ErrBig},
		{"a long load of no kind", overLong(0), api.ErrBig},
		{"nine zeros", make([]byte, 9), api.ErrSum},
	} {
		refuses(t, c.what, slices.Concat(all, c.b), len(all), c.want)
		refuses(t, c.what+", and more", slices.Concat(all, c.b, codec.Seal(0, nil)), len(all), c.want)
		front := ends(t, all)[0]
		refuses(t, c.what+", twice", slices.Concat(all, codec.Seal(collect, nil), c.b, c.b), len(all)+13, c.want)
		if c.want != api.ErrReplay {
			refuses(t, c.what+", at once", slices.Concat(all[:front], c.b, all[front:]), front, c.want)
		}
	}
}

// 17.5: records that can come, and the limits of their numbers.
func TestOpenTakes(t *testing.T) {
	s := api.Snapshot{Latest: api.MaxNumber, Pins: []api.Pin{{Batch: 7, Count: 1}}}
	data := slices.Concat(
		codec.Seal(head, headLoad(8, bank(), s)),
		codec.Seal(pin, number(api.MaxNumber)), codec.Seal(pin, number(7)), codec.Seal(unpin, number(7)), codec.Seal(unpin, number(7)), codec.Seal(collect, nil))
	d := opened(t, one(), data)
	if v := d.View(); fmt.Sprint(v.Pins) != fmt.Sprint([]api.Pin{{Batch: api.MaxNumber, Count: 1}}) || !bytes.Equal(d.Bytes(), data) {
		t.Errorf("View: %v", v)
	}
	refuses(t, "one more unpin", slices.Concat(data, codec.Seal(unpin, number(7))), len(data), api.ErrReplay)
	refuses(t, "a batch without a number", slices.Concat(data, codec.Seal(lot, []byte{0})), len(data), api.ErrReplay)
}

// 17.5: what is torn at the end is dropped, whatever it is, and the journal goes on where it was torn.
func TestOpenTorn(t *testing.T) {
	all := written(t, one(), 12, some()...).Bytes()
	for _, torn := range [][]byte{
		{0}, {66}, {1, 2, 3, 4, 5, 6, 7, 8}, make([]byte, 8),
		codec.Seal(lot, encoded(put(1, 1)))[:28],
		codec.Seal(88, nil)[:12],
		codec.Seal(head, nil)[:9],
		codec.Seal(collect, []byte{1})[:13],
		codec.Seal(pin, make([]byte, api.MaxLoad))[:api.MaxLoad],
	} {
		d := opened(t, layouts()[1], slices.Concat(all, torn))
		if !bytes.Equal(d.Bytes(), all) {
			t.Errorf("%d bytes that were torn: Bytes are others", len(torn))
		}
		writes(t, d, "Collect", func() { d.Collect() }, codec.Seal(collect, nil))
		opened(t, one(), d.Bytes())
	}
}

// 17.5: no step is taken.
func TestOpenTakesNoStep(t *testing.T) {
	for _, l := range layouts() {
		d := written(t, one(), 12, some()[:5]...)
		d.Compact()
		for _, o := range some()[5:] {
			o(d)
		}
		v := opened(t, l, d.Bytes()).View()
		if v.Steps != 0 || v.Latest != 5 || v.Complete != 2 {
			t.Errorf("View: %v", v)
		}
	}
}
