package keys

import (
	"prelude/api"
	"prelude/codec"
)

// Text is a key as text.
func Text(k api.Key) (string, api.Errno) {
	if Check(k) != api.OK {
		return "", api.ErrKey
	}
	return codec.Digits(int64(k.Table)) + ":" + codec.Digits(k.Row), api.OK
}

// Parse reads a key's text: the key, or the place at which it is wrong, and how.
func Parse(text string) (api.Key, int, api.Errno) {
	table, at, e := readTable(text)
	if e != api.OK {
		return api.Key{}, at, e
	}
	if !stands(text, at, ':') {
		return api.Key{}, at, api.ErrWord
	}
	row, at, e := readRow(text, at+1)
	if e != api.OK {
		return api.Key{}, at, e
	}
	if at < len(text) {
		return api.Key{}, at, api.ErrWord
	}
	return api.Key{Table: table, Row: row}, 0, api.OK
}

// readTable reads the Table at a text's front: it, and the place behind it; or the place at which it is wrong, and how.
func readTable(text string) (int, int, api.Errno) {
	end, e := readDigits(text, 0)
	if e != api.OK {
		return 0, end, e
	}
	n, ok := codec.Number(text[:end])
	if !ok || n > api.MaxTable {
		return 0, 0, api.ErrNumber
	}
	return int(n), end, api.OK
}

// readRow reads the Row that begins at a place: it, and the place behind it; or the place at which it is wrong, and how.
func readRow(text string, from int) (int64, int, api.Errno) {
	first := from
	if stands(text, from, '-') {
		first++
		// Behind a - a lone 0 is wrong too, and already at its own place.
		if stands(text, first, '0') {
			return 0, first, api.ErrWord
		}
	}
	end, e := readDigits(text, first)
	if e != api.OK {
		return 0, end, e
	}
	n, ok := codec.Number(text[from:end])
	if !ok {
		return 0, from, api.ErrNumber
	}
	return n, end, api.OK
}

// readDigits is the place behind the digits that begin at a place; or the place at which they can't go on as a number.
func readDigits(text string, from int) (int, api.Errno) {
	end := from
	for end < len(text) && '0' <= text[end] && text[end] <= '9' {
		end++
	}
	if end == from {
		return from, api.ErrWord
	}
	if text[from] == '0' && end > from+1 {
		return from + 1, api.ErrWord
	}
	return end, api.OK
}

// stands tells whether a byte stands at a place.
func stands(text string, at int, b byte) bool { return at < len(text) && text[at] == b }
