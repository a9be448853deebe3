package cc

import "prelude/api"

// What a worker does next.
const (
	toRead = iota
	toWrite
	toSay
)

// act is one act of a worker: what it is, of which transaction, and at which of its reads or writes. To say is of none.
type act struct{ what, index, at int }

// owner is the worker whose own a key is.
func (b *Board) owner(k api.Key) int { return b.st.Part(k) % len(b.turns) }

// read notes which version a read means.
func (b *Board) read(x *entry, at int) {
	reads, _, _ := x.lists(x.numbers)
	reads[at] = b.st.Newest(x.tx.Reads[at])
}

// write lays a version, and notes the one ahead of it.
func (b *Board) write(x *entry, at int, p api.Place) {
	_, before, own := x.lists(x.numbers)
	k := x.tx.Writes[at]
	before[at] = b.st.Newest(k)
	own[at], _ = b.st.Insert(k, p.Batch, p.Index) // there is room, and nobody else puts versions in
}

// say counts one worker less at a batch. Each worker goes by rising numbers: so the batches ahead are laid when this one is.
func (b *Board) say(n int) {
	s := b.sheets[n]
	s.busy--
	if s.busy > 0 {
		return
	}
	s.acts = nil
	b.laid = n
	b.settle()
}
