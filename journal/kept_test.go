package journal

import (
	"testing"

	"prelude/api"
)

// long is a database whose journal is much longer than its head.
func long(t *testing.T) *DB {
	t.Helper()
	d, f := Create(api.Layout{Workers: 1, Hands: 1, Parts: 1, Ahead: 1}, nil, 8)
	if f != api.OK {
		t.Fatal(f)
	}
	for range 10000 {
		d.Collect()
	}
	d.Drain()
	return d
}

// 17.3: behind a Compact nothing is kept of what the journal was.
func TestCompactKeepsNothing(t *testing.T) {
	d := long(t)
	before := len(d.log)
	d.Compact()
	if len(d.log) != 27 || cap(d.log) > 64 {
		t.Errorf("%d bytes in the room of %d, behind %d", len(d.log), cap(d.log), before)
	}
}

// 17.5: what was torn, and the room that the journal had, is not kept.
func TestOpenKeepsNoMore(t *testing.T) {
	data := long(t).Bytes()
	roomy := append(make([]byte, 0, 10*len(data)), data...)
	for _, size := range []int{len(data), 27, 30} {
		d, err := Open(api.Layout{Workers: 1, Hands: 1, Parts: 1, Ahead: 1}, roomy[:size])
		if err != nil {
			t.Fatal(err)
		}
		if cap(d.log) > size+size/4+64 {
			t.Errorf("%d bytes are kept in the room of %d", len(d.log), cap(d.log))
		}
	}
}
