package cc

import (
	"slices"

	"prelude/api"
)

// entry is a transaction on the board.
type entry struct {
	tx      api.Tx
	state   int
	hand    int   // which one has claimed it
	numbers []int // of versions, in one list: those of Reads, of Before, of Own
	outcome api.Outcome
}

// newEntry is a transaction that is posted, without notes.
func newEntry(tx api.Tx) entry {
	return entry{
		tx:      copied(tx),
		state:   api.TxPosted,
		numbers: make([]int, len(tx.Reads)+2*len(tx.Writes)),
	}
}

// lists cuts a list of numbers into its three parts, each of which ends where the next one begins: so none can grow into it.
func (x *entry) lists(numbers []int) (reads, before, own []int) {
	mid := len(x.tx.Reads)
	last := mid + len(x.tx.Writes)
	return numbers[:mid:mid], numbers[mid:last:last], numbers[last:len(numbers):len(numbers)]
}

// note is what is told of the transaction.
func (x *entry) note() api.Note {
	reads, before, own := x.lists(slices.Clone(x.numbers))
	return api.Note{State: x.state, Tx: copied(x.tx), Reads: reads, Before: before, Own: own}
}

// copied is a transaction in memory of its own.
func copied(tx api.Tx) api.Tx {
	tx.Args = slices.Clone(tx.Args)
	tx.Reads = slices.Clone(tx.Reads)
	tx.Writes = slices.Clone(tx.Writes)
	return tx
}

// plainOutcome is an outcome in memory of its own, with no value where nothing stood.
func plainOutcome(o api.Outcome) api.Outcome {
	o.Out = slices.Clone(o.Out)
	o.Read = slices.Clone(o.Read)
	for i, c := range o.Read {
		if !c.Is {
			o.Read[i].Value = 0
		}
	}
	return o
}
