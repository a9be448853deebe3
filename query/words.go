package query

import (
	"iter"
	"strconv"
	"strings"

	"prelude/api"
)

// word is a word of a query's text: a number, a name, a mark; or, without text, the end.
type word struct {
	text   string
	number bool
	num    int64
	at     api.Spot
}

// longMarks is the marks of two bytes, shortMarks those of one.
var longMarks = [6]string{"||", "&&", "==", "!=", "<=", ">="}

const shortMarks = "<>+-*/%!(),"

// words goes through a text: its words, and the end behind its last byte; or up to a place that is wrong, and why.
func words(text string) iter.Seq2[word, api.Errno] {
	return func(yield func(word, api.Errno) bool) {
		s := scan{rest: text, at: start()}
		for s.skip(); s.rest != ""; s.skip() {
			w, e := wordAhead(s.rest)
			w.at = s.at
			if !yield(w, e) || e != api.OK {
				return
			}
			s.pass(len(w.text))
		}
		yield(word{at: s.at}, api.OK)
	}
}

// wordAhead is the word that a text begins with, its place left open.
func wordAhead(text string) (word, api.Errno) {
	if digits := front(text, isDigit); digits != "" {
		return numberWord(digits)
	}
	if name := front(text, isLetter); name != "" {
		return word{text: name}, api.OK
	}
	if mark := markAhead(text); mark != "" {
		return word{text: mark}, api.OK
	}
	return word{}, api.ErrQuery
}

// numberWord is the number with some digits, if it is not too great.
func numberWord(digits string) (word, api.Errno) {
	n, err := strconv.ParseInt(digits, 10, 64)
	if err != nil {
		return word{}, api.ErrNumber
	}
	return word{text: digits, number: true, num: n}, api.OK
}

// markAhead is the longest mark that a text begins with, "" if there is none.
func markAhead(text string) string {
	for _, mark := range longMarks {
		if strings.HasPrefix(text, mark) {
			return mark
		}
	}
	if strings.IndexByte(shortMarks, text[0]) < 0 {
		return ""
	}
	return text[:1]
}

// scan goes through a text: what is left of it, and the place of its first byte.
type scan struct {
	rest string
	at   api.Spot
}

// start is the place of a text's first byte.
func start() api.Spot { return api.Spot{Line: 1, Col: 1} }

// skip goes past the blanks that come next.
func (s *scan) skip() {
	for s.rest != "" && isBlank(s.rest[0]) {
		if s.rest[0] == '\n' {
			s.at = api.Spot{Line: s.at.Line + 1}
		}
		s.pass(1)
	}
}

// pass goes past so many bytes of a line.
func (s *scan) pass(n int) {
	s.at.Col += n
	s.rest = s.rest[n:]
}

// front is the bytes that fit at the front of a text.
func front(text string, fits func(byte) bool) string {
	n := 0
	for n < len(text) && fits(text[n]) {
		n++
	}
	return text[:n]
}

func isBlank(b byte) bool { return b == ' ' || b == '\t' || b == '\n' || b == '\r' }

func isDigit(b byte) bool { return '0' <= b && b <= '9' }

func isLetter(b byte) bool { return 'a' <= b && b <= 'z' }
