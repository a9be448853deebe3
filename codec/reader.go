package codec

import (
	"math"

	"prelude/api"
)

// Reader goes through bytes.
type Reader struct {
	in  []byte
	at  int
	err api.Errno
}

// Read is a Reader at the front of some bytes.
func Read(b []byte) *Reader { return &Reader{in: fresh(b)} }

// Byte reads one byte.
func (r *Reader) Byte() byte {
	if r.err != api.OK {
		return 0
	}
	if r.Left() == 0 {
		r.err = api.ErrShort
		return 0
	}
	b := r.in[r.at]
	r.at++
	return b
}

// Uint reads a number without sign.
func (r *Reader) Uint() uint64 { return r.Upto(math.MaxUint64) }

// Upto reads a number without sign of at most so much.
func (r *Reader) Upto(most uint64) uint64 {
	if r.err != api.OK {
		return 0
	}
	n, size, e := scan(r.in[r.at:])
	if e == api.OK && n > most {
		e = api.ErrBig
	}
	if e != api.OK {
		r.err = e
		return 0
	}
	r.at += size
	return n
}

// Int reads a number with sign.
func (r *Reader) Int() int64 {
	n := r.Uint()
	half := int64(n / 2)
	if n%2 == 1 {
		return -1 - half
	}
	return half
}

// Bytes reads a length of at most so much and as many bytes.
func (r *Reader) Bytes(most int) []byte {
	if r.err != api.OK {
		return nil
	}
	n, size, e := scan(r.in[r.at:])
	if e != api.OK {
		r.err = e
		return nil
	}
	if most < 0 || n > uint64(most) {
		r.err = api.ErrBig
		return nil
	}
	if n > uint64(r.Left()-size) {
		r.err = api.ErrShort
		return nil
	}
	r.at += size
	return r.Raw(int(n))
}

// Raw reads so many bytes.
func (r *Reader) Raw(n int) []byte {
	if r.err != api.OK {
		return nil
	}
	if n < 0 {
		r.err = api.ErrForm
		return nil
	}
	if n > r.Left() {
		r.err = api.ErrShort
		return nil
	}
	b := fresh(r.in[r.at : r.at+n])
	r.at += n
	return b
}

// At is how many bytes were read.
func (r *Reader) At() int { return r.at }

// Left is how many bytes are left.
func (r *Reader) Left() int { return len(r.in) - r.at }

// Fail gives the Reader an error, if it has none.
func (r *Reader) Fail(e api.Errno) {
	if r.err == api.OK {
		r.err = e
	}
}

// Err is the first thing that went wrong.
func (r *Reader) Err() api.Errno { return r.err }

// End is the first thing that went wrong, or that bytes are left.
func (r *Reader) End() api.Errno {
	if r.err == api.OK && r.Left() > 0 {
		return api.ErrForm
	}
	return r.err
}

// scan is the number at the front of some bytes and how many bytes it has. It moves no Reader: what is wrong behind the number leaves it unread too.
func scan(b []byte) (uint64, int, api.Errno) {
	n := uint64(0)
	for i, c := range b {
		if i == 9 && c > 1 || i > 0 && c == 0 {
			return 0, 0, api.ErrForm
		}
		n |= uint64(c&127) << (7 * i)
		if c < 128 {
			return n, i + 1, api.OK
		}
	}
	return 0, 0, api.ErrShort
}
