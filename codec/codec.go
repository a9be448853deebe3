// Package codec is layer 1: bytes (numbers, lengths, check sums, records) and numbers as text. See shared/doc/01-codec.md.
package codec

// fresh copies bytes, so that who changes the one never changes the other.
func fresh(b []byte) []byte {
	c := make([]byte, len(b))
	copy(c, b)
	return c
}
