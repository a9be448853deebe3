package codec

import "prelude/api"

// A record is a head (the kind, the load's length), the head's sum, the load, the load's sum.
const (
	headSize = 5
	sumSize  = 4
)

// halfRemainders is the remainder behind the four bits of each half of a byte: Sum goes on by four bits at a time instead of one.
var halfRemainders = [16]uint32{
	0x00000000, 0x1db71064, 0x3b6e20c8, 0x26d930ac,
	0x76dc4190, 0x6b6b51f4, 0x4db26158, 0x5005713c,
	0xedb88320, 0xf00f9344, 0xd6d6a3e8, 0xcb61b38c,
	0x9b64c2b0, 0x86d3d2d4, 0xa00ae278, 0xbdbdf21c,
}

// Sum is the check sum of some bytes.
func Sum(b []byte) uint32 {
	r := ^uint32(0)
	for _, c := range b {
		r ^= uint32(c)
		r = r>>4 ^ halfRemainders[r&15]
		r = r>>4 ^ halfRemainders[r&15]
	}
	return ^r
}

// Seal is a record.
func Seal(kind byte, load []byte) []byte {
	if len(load) > api.MaxLoad {
		return nil
	}
	b := make([]byte, 0, headSize+sumSize+len(load)+sumSize)
	b = append(b, kind)
	b = appendFour(b, uint32(len(load)))
	b = appendFour(b, Sum(b))
	b = append(b, load...)
	return appendFour(b, Sum(load))
}

// Unseal reads the record that begins at a place: its kind, its load, the place behind it.
func Unseal(b []byte, at int) (byte, []byte, int, api.Errno) {
	if at < 0 || at > len(b) {
		return 0, nil, 0, api.ErrForm
	}
	rest := b[at:]
	if len(rest) < headSize+sumSize {
		return 0, nil, 0, api.ErrShort
	}
	head, rest := rest[:headSize], rest[headSize:]
	if Sum(head) != four(rest) {
		return 0, nil, 0, api.ErrSum
	}
	length := four(head[1:])
	if length > api.MaxLoad {
		return 0, nil, 0, api.ErrBig
	}
	rest = rest[sumSize:]
	size := int(length)
	if len(rest) < size+sumSize {
		return 0, nil, 0, api.ErrShort
	}
	load := rest[:size]
	if Sum(load) != four(rest[size:]) {
		return 0, nil, 0, api.ErrSum
	}
	return head[0], fresh(load), at + headSize + sumSize + size + sumSize, api.OK
}

// appendFour puts a number behind bytes as four bytes, the lowest first.
func appendFour(b []byte, n uint32) []byte {
	return append(b, byte(n), byte(n>>8), byte(n>>16), byte(n>>24))
}

// four is the number that the first four bytes are, the lowest first.
func four(b []byte) uint32 {
	return uint32(b[0]) | uint32(b[1])<<8 | uint32(b[2])<<16 | uint32(b[3])<<24
}
