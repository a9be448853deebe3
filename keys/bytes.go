package keys

import "prelude/api"

// size is how many bytes a key has.
const size = api.KeyBits / 8

// topBit is a Row's sign: with it turned, rows below 0 have the smaller bytes.
const topBit = 1 << 63

// The 64 bit FNV-1a sum: what it begins at, and what it is multiplied by.
const (
	hashStart uint64 = 14695981039346656037
	hashPrime uint64 = 1099511628211
)

// Bytes is a key as ten bytes, whose order is that of keys.
func Bytes(k api.Key) ([]byte, api.Errno) {
	if Check(k) != api.OK {
		return nil, api.ErrKey
	}
	b := spell(k)
	return b[:], api.OK
}

// FromBytes is the key of ten bytes.
func FromBytes(b []byte) (api.Key, api.Errno) {
	if len(b) < size {
		return api.Key{}, api.ErrShort
	}
	if len(b) > size {
		return api.Key{}, api.ErrForm
	}
	row := uint64(0)
	for _, c := range b[2:] {
		row = row<<8 | uint64(c)
	}
	return api.Key{Table: int(b[0])<<8 | int(b[1]), Row: int64(row ^ topBit)}, api.OK
}

// Hash is a key's hash.
func Hash(k api.Key) uint64 {
	if Check(k) != api.OK {
		return 0
	}
	h := hashStart
	for _, c := range spell(k) {
		h = (h ^ uint64(c)) * hashPrime
	}
	return h
}

// Partition is the partition of a key, of so many.
func Partition(k api.Key, parts int) (int, api.Errno) {
	if Check(k) != api.OK {
		return 0, api.ErrKey
	}
	if !canSplit(parts) {
		return 0, api.ErrParts
	}
	return int(Hash(k) % uint64(parts)), api.OK
}

// spell is a key's bytes.
func spell(k api.Key) [size]byte {
	b := [size]byte{byte(k.Table >> 8), byte(k.Table)}
	row := uint64(k.Row) ^ topBit
	for i := size - 1; i >= 2; i-- {
		b[i] = byte(row)
		row >>= 8
	}
	return b
}

// canSplit tells whether there may be so many partitions.
func canSplit(parts int) bool { return 1 <= parts && parts <= api.MaxParts }
