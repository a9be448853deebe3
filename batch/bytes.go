package batch

import (
	"prelude/api"
	"prelude/codec"
	"prelude/keys"
)

// keySize is how many bytes a key has.
const keySize = api.KeyBits / 8

// Encode is a batch as bytes.
func Encode(b []api.Tx) ([]byte, api.Errno) {
	if _, e := each(b, wellFormed); e != api.OK {
		return nil, e
	}
	w := codec.New()
	w.Uint(uint64(len(b)))
	for _, tx := range b {
		w.Uint(uint64(tx.Proc))
		putArgs(w, tx.Args)
		putKeys(w, tx.Reads)
		putKeys(w, tx.Writes)
	}
	return w.Out(), api.OK
}

// Decode is the batch of some bytes, or the place at which they are wrong.
func Decode(data []byte) (b []api.Tx, at int, e api.Errno) {
	defer func() {
		if found := recover(); found != nil {
			f := found.(fault)
			b, at, e = nil, f.at, f.e
		}
	}()
	in := reading{codec.Read(data)}
	b = in.batch()
	in.end()
	return b, 0, api.OK
}

// putArgs writes args and their number.
func putArgs(w *codec.Writer, args []int64) {
	w.Uint(uint64(len(args)))
	for _, n := range args {
		w.Int(n)
	}
}

// putKeys writes a set and the number of its keys.
func putKeys(w *codec.Writer, set []api.Key) {
	w.Uint(uint64(len(set)))
	for _, k := range set {
		// A member of a set is a key: Bytes has nothing to refuse here.
		b, _ := keys.Bytes(k)
		w.Raw(b)
	}
}
