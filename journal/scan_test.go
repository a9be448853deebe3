package journal_test

import (
	"slices"
	"testing"

	"prelude/api"
	"prelude/codec"
	"prelude/journal"
)

// stops looks that Scan takes so many records and bytes, and finds an error behind them.
func stops(t *testing.T, what string, data []byte, n, size int, want api.Errno) {
	t.Helper()
	got, place, err := journal.Scan(data)
	if got != n || place != size {
		t.Errorf("%s: %d, %d, not %d, %d", what, got, place, n, size)
	}
	at(t, what, err, size, want)
}

// 17.4: records of whatever kinds and loads.
func TestScan(t *testing.T) {
	scans(t, nil, 0)
	scans(t, []byte{}, 0)
	var all []byte
	for i, r := range [][]byte{
		codec.Seal(88, nil),
		codec.Seal(collect, []byte{1, 2, 3}),
		codec.Seal(0, make([]byte, 1000)),
		codec.Seal(255, []byte{0}),
		codec.Seal(head, nil),
		codec.Seal(lot, []byte{7}),
		codec.Seal(pin, make([]byte, api.MaxLoad)),
		codec.Seal(head, []byte("PRJ1")),
	} {
		scans(t, r, 1)
		all = append(all, r...)
		scans(t, all, i+1)
	}
}

// 17.4: of a journal that is cut anywhere the whole records are told, and that the next one is short.
func TestScanCut(t *testing.T) {
	data := written(t, one(), 12, some()...).Bytes()
	n, whole := 0, 0
	for size := range len(data) + 1 {
		if size == ends(t, data)[n] {
			n, whole = n+1, size
			scans(t, data[:size], n)
			continue
		}
		if size > 0 {
			stops(t, "cut", data[:size], n, whole, api.ErrShort)
		}
	}
	if n != 1+len(some()) {
		t.Errorf("%d records", n)
	}
}

// 17.4: each error of Unseal, at its place.
func TestScanWrong(t *testing.T) {
	two := slices.Concat(codec.Seal(88, []byte{1}), codec.Seal(collect, nil))
	stops(t, "zeros", slices.Concat(two, make([]byte, 9)), 2, 27, api.ErrSum)
	stops(t, "eight zeros", slices.Concat(two, make([]byte, 8)), 2, 27, api.ErrShort)
	stops(t, "one byte", []byte{72}, 0, 0, api.ErrShort)
	long := []byte{pin, 1, 0, 0, 1} // a load of 2^24 + 1 bytes
	sum := codec.Sum(long)
	long = append(long, byte(sum), byte(sum>>8), byte(sum>>16), byte(sum>>24))
	stops(t, "a long load", slices.Concat(two, long), 2, 27, api.ErrBig)
	stops(t, "a long load alone", long, 0, 0, api.ErrBig)
	for i := range two {
		for _, bit := range []byte{1, 128} {
			bad := slices.Concat(two, codec.Seal(1, nil))
			bad[i] ^= bit
			if i < 14 {
				stops(t, "a wrong byte", bad, 0, 0, api.ErrSum)
			} else {
				stops(t, "a wrong byte", bad, 1, 14, api.ErrSum)
			}
		}
	}
}
