package journal

import (
	"errors"

	"prelude/api"
	"prelude/codec"
	"prelude/keys"
	"prelude/lang"
)

// mark is what a head's load begins with.
const mark = "PRJ1"

// head is what a journal begins with: all that the operations behind it are done to.
type head struct {
	capacity int
	lib      []api.Proc
	state    api.Snapshot
}

// readHead reads the head of a journal, and tells the place behind it.
func readHead(data []byte) (head, int, error) {
	r, err := recordAt(data, 0)
	if errors.Is(err, api.ErrShort) { // unlike the records behind it: without a head there is no database
		return head{}, 0, wrongAt(0, api.ErrHead)
	}
	if err != nil {
		return head{}, 0, err
	}
	if r.kind != kindHead {
		return head{}, 0, wrongAt(0, api.ErrHead)
	}
	h, f := loadHead(r.load)
	if f != api.OK {
		return head{}, 0, wrongAt(0, f)
	}
	return h, r.behind, nil
}

// record is the head as a record. The greatest library and the greatest snapshot have room in one.
func (h head) record() []byte {
	w := codec.New()
	w.Raw([]byte(mark))
	w.Uint(uint64(h.capacity))
	// A database has this library, so it is sound: Encode has nothing to refuse here.
	lib, _ := lang.Encode(h.lib)
	w.Bytes(lib)
	putSnapshot(w, h.state)
	return codec.Seal(kindHead, w.Out())
}

// putSnapshot writes a snapshot.
func putSnapshot(w *codec.Writer, s api.Snapshot) {
	w.Uint(uint64(s.Latest))
	w.Uint(uint64(len(s.Pins)))
	for _, p := range s.Pins {
		w.Uint(uint64(p.Batch))
		w.Uint(uint64(p.Count))
	}
	w.Uint(uint64(len(s.Chains)))
	for _, c := range s.Chains {
		putChain(w, c)
	}
}

// putChain writes a key and its versions.
func putChain(w *codec.Writer, c api.Chain) {
	// What has versions is a key: Bytes has nothing to refuse here.
	k, _ := keys.Bytes(c.Key)
	w.Raw(k)
	w.Uint(uint64(len(c.Versions)))
	for _, v := range c.Versions {
		w.Uint(uint64(v.Batch))
		w.Uint(uint64(v.Index))
		putCell(w, v.Cell)
	}
}

// putCell writes whether a value stands in a cell, and the value.
func putCell(w *codec.Writer, c api.Cell) {
	if !c.Is {
		w.Byte(0)
		return
	}
	w.Byte(1)
	w.Int(c.Value)
}
