package batch

import (
	"prelude/api"
	"prelude/codec"
	"prelude/keys"
)

// fault is what is wrong with bytes, and where; reading panics with it, so that nothing on the way out has to hand it on.
type fault struct {
	at int
	e  api.Errno
}

// reading goes through a batch's bytes, and gives up at the first thing that is wrong.
type reading struct {
	r *codec.Reader
}

// batch reads all transactions.
func (in reading) batch() []api.Tx {
	b := make([]api.Tx, in.upto(api.MaxTxs))
	for i := range b {
		b[i] = in.tx()
	}
	return b
}

// tx reads one transaction.
func (in reading) tx() api.Tx {
	// One behind the other: their order is that of the bytes.
	var tx api.Tx
	tx.Proc = in.upto(api.MaxProcs - 1)
	tx.Args = in.args()
	tx.Reads = in.set(api.MaxReads)
	tx.Writes = in.set(api.MaxWrites)
	return tx
}

// args reads args and their number.
func (in reading) args() []int64 {
	args := make([]int64, in.upto(api.MaxArgs))
	for i := range args {
		args[i] = in.r.Int()
		in.look()
	}
	return args
}

// set reads a set and the number of its keys.
func (in reading) set(most uint64) []api.Key {
	set := make([]api.Key, in.upto(most))
	for i := range set {
		at := in.r.At()
		set[i] = in.key()
		if i > 0 && keys.Compare(set[i-1], set[i]) >= 0 {
			panic(fault{at, api.ErrSet})
		}
	}
	return set
}

// key reads a key.
func (in reading) key() api.Key {
	b := in.r.Raw(keySize)
	in.look()
	// Each ten bytes are a key: FromBytes has nothing to refuse here.
	k, _ := keys.FromBytes(b)
	return k
}

// upto reads a number of at most so much.
func (in reading) upto(most uint64) int {
	n := in.r.Upto(most)
	in.look()
	return int(n)
}

// look gives up, if the Reader could not read: then it stands where that begins.
func (in reading) look() { in.giveUp(in.r.Err()) }

// end gives up, if bytes are left.
func (in reading) end() { in.giveUp(in.r.End()) }

// giveUp panics at the place where the Reader stands, if something is wrong.
func (in reading) giveUp(e api.Errno) {
	if e != api.OK {
		panic(fault{in.r.At(), e})
	}
}
