package source

import (
	"strings"
	"unicode/utf8"

	"prelude/api"
	"prelude/codec"
)

// pairs is the signs of two bytes, shortSigns those of one.
var pairs = [8]string{"==", "!=", "<=", ">=", "<<", ">>", "&&", "||"}

const shortSigns = "=<>+-*/%&|^!?:;,(){}[]"

// Digits of a number that is written by its bits.
const (
	bitsMark   = "0x"
	bitDigits  = "0123456789abcdef"
	mostDigits = 16
)

// tokenAhead is the token that a text begins with, its place left open.
func tokenAhead(text string) (api.Token, api.Errno) {
	first, _ := utf8.DecodeRuneInString(text)
	switch {
	case isLetter(first):
		return wordToken(text[:front(text, inWord)]), api.OK
	case isDigit(first):
		return numberToken(text[:front(text, inWord)])
	}
	sign := signAhead(text, first)
	if sign == "" {
		return api.Token{}, api.ErrLex
	}
	return api.Token{Kind: api.TSign, Text: sign}, api.OK
}

// wordToken is a word of the language or a name.
func wordToken(text string) api.Token {
	if isWord(text) {
		return api.Token{Kind: api.TWord, Text: text}
	}
	return api.Token{Kind: api.TName, Text: text}
}

// numberToken is a number, if what stands there is one.
func numberToken(text string) (api.Token, api.Errno) {
	n, ok := numberOf(text)
	if !ok {
		return api.Token{}, api.ErrNumber
	}
	return api.Token{Kind: api.TNumber, Text: text, N: n}, api.OK
}

// signAhead is the sign that a text with that first rune begins with, "" if there is none. A comment that never ends begins with none.
func signAhead(text string, first rune) string {
	if strings.HasPrefix(text, commentFirst) {
		return ""
	}
	for _, pair := range pairs {
		if strings.HasPrefix(text, pair) {
			return pair
		}
	}
	if strings.ContainsRune(shortSigns, first) {
		return text[:1]
	}
	return ""
}

// numberOf is the number that a text stands for, and whether it does.
func numberOf(text string) (int64, bool) {
	if digits, ok := strings.CutPrefix(text, bitsMark); ok {
		return bitsOf(digits)
	}
	return codec.Number(text)
}

// bitsOf is the number with the bits that digits stand for, and whether they do.
func bitsOf(digits string) (int64, bool) {
	if digits == "" || len(digits) > mostDigits {
		return 0, false
	}
	var bits uint64
	for _, r := range digits {
		d := strings.IndexRune(bitDigits, r)
		if d < 0 {
			return 0, false
		}
		bits = bits<<4 | uint64(d)
	}
	return int64(bits), true
}

// isName tells whether a text is a name.
func isName(text string) bool {
	first, _ := utf8.DecodeRuneInString(text)
	return isLetter(first) && front(text, inWord) == len(text) && !isWord(text)
}

// isWord tells whether a word is one of the language's own.
func isWord(text string) bool {
	switch text {
	case "const", "proc", "reads", "writes",
		"let", "put", "del", "out", "abort", "stop", "if", "else", "repeat",
		"get", "has", "min", "max":
		return true
	}
	return false
}
