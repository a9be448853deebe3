package journal

import (
	"prelude/api"
	"prelude/codec"
)

// The kinds of records.
const (
	kindHead    = 'H'
	kindBatch   = 'B'
	kindPin     = 'P'
	kindUnpin   = 'U'
	kindCollect = 'C'
)

// record is a record as it was read, and the place behind it.
type record struct {
	kind   byte
	load   []byte
	behind int
}

// recordAt reads the record that begins at a place. What is wrong with it is told with that place.
func recordAt(data []byte, at int) (record, error) {
	kind, load, behind, f := codec.Unseal(data, at)
	if f != api.OK {
		return record{}, wrongAt(at, f)
	}
	return record{kind, load, behind}, nil
}

// wrongAt is what is wrong with a record that begins at a place.
func wrongAt(at int, f api.Errno) error { return &api.ByteError{At: at, Err: f} }

// numberLoad is a batch's number as the load of a record.
func numberLoad(n int) []byte {
	w := codec.New()
	w.Uint(uint64(n))
	return w.Out()
}

// loadNumber is the batch's number that a load is, if it is just that.
func loadNumber(load []byte) (int, bool) {
	r := codec.Read(load)
	n := r.Upto(api.MaxNumber)
	return int(n), r.End() == api.OK
}
