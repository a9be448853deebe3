package journal

import (
	"prelude/api"
	"prelude/codec"
	"prelude/keys"
	"prelude/lang"
)

// keySize is how many bytes a key has.
const keySize = api.KeyBits / 8

// fault is what is wrong with a head; reading panics with it, so that nothing on the way out has to hand it on.
type fault struct {
	e api.Errno
}

// loadHead is the head that a load is.
func loadHead(load []byte) (h head, e api.Errno) {
	defer func() {
		if found := recover(); found != nil {
			h, e = head{}, found.(fault).e
		}
	}()
	return reading{codec.Read(load)}.head(), api.OK
}

// reading goes through a head's load, and gives up at the first thing that is wrong.
type reading struct {
	r *codec.Reader
}

// head reads all of it.
func (in reading) head() head {
	if string(in.r.Raw(len(mark))) != mark {
		panic(fault{api.ErrVersion})
	}
	// One behind the other: their order is that of the bytes.
	var h head
	h.capacity = in.upto(api.MaxCapacity)
	h.lib = in.library()
	h.state = in.snapshot()
	in.want(in.r.End() == api.OK)
	return h
}

// library reads a library and how many bytes it has.
func (in reading) library() []api.Proc {
	b := in.r.Bytes(api.MaxLoad)
	in.look()
	lib, _, e := lang.Decode(b)
	in.want(e == api.OK)
	return lib
}

// snapshot reads a snapshot.
func (in reading) snapshot() api.Snapshot {
	var s api.Snapshot
	s.Latest = in.upto(api.MaxNumber)
	s.Pins = make([]api.Pin, in.upto(api.MaxPins))
	for i := range s.Pins {
		s.Pins[i].Batch = in.upto(api.MaxNumber)
		s.Pins[i].Count = in.upto(api.MaxNumber)
	}
	s.Chains = make([]api.Chain, in.upto(api.MaxCapacity))
	for i := range s.Chains {
		s.Chains[i] = in.chain()
	}
	return s
}

// chain reads a key and its versions.
func (in reading) chain() api.Chain {
	b := in.r.Raw(keySize)
	in.look()
	// Each ten bytes are a key: FromBytes has nothing to refuse here.
	k, _ := keys.FromBytes(b)
	c := api.Chain{Key: k, Versions: make([]api.Stamp, in.upto(api.MaxCapacity))}
	for i := range c.Versions {
		c.Versions[i] = in.stamp()
	}
	return c
}

// stamp reads a version.
func (in reading) stamp() api.Stamp {
	var v api.Stamp
	v.Batch = in.upto(api.MaxNumber)
	v.Index = in.upto(api.MaxTxs - 1)
	v.Cell = in.cell()
	return v
}

// cell reads whether a value stands in a cell, and the value.
func (in reading) cell() api.Cell {
	is := in.r.Byte()
	in.look()
	in.want(is <= 1)
	if is == 0 {
		return api.Cell{}
	}
	v := in.r.Int()
	in.look()
	return api.Cell{Is: true, Value: v}
}

// upto reads a number of at most so much.
func (in reading) upto(most uint64) int {
	n := in.r.Upto(most)
	in.look()
	return int(n)
}

// look gives up, if the Reader could not read.
func (in reading) look() { in.want(in.r.Err() == api.OK) }

// want gives up, if something is not as a head's form asks for.
func (in reading) want(holds bool) {
	if !holds {
		panic(fault{api.ErrForm})
	}
}
