package source

import (
	"strings"

	"prelude/api"
)

// The two ends of a comment that goes on over lines, and the beginning of one that does not.
const (
	commentFirst = "/*"
	commentLast  = "*/"
	lineComment  = "//"
)

// scan goes through a text: what is left of it, and the place of its first byte.
type scan struct {
	rest string
	at   api.Spot
}

// start is the place of a text's first byte.
func start() api.Spot { return api.Spot{Line: 1, Col: 1} }

// skip goes past the blanks and comments that come next.
func (s *scan) skip() {
	for n := gap(s.rest); n > 0; n = gap(s.rest) {
		s.pass(n)
	}
}

// pass goes past so many bytes.
func (s *scan) pass(n int) {
	s.at = behind(s.at, s.rest[:n])
	s.rest = s.rest[n:]
}

// behind is the place behind a piece of a text that begins at a place.
func behind(at api.Spot, piece string) api.Spot {
	feeds := strings.Count(piece, "\n")
	if feeds == 0 {
		return api.Spot{Line: at.Line, Col: at.Col + len(piece)}
	}
	return api.Spot{Line: at.Line + feeds, Col: len(piece) - strings.LastIndex(piece, "\n")}
}

// gap is how many bytes the blanks or the comment have that a text begins with. A comment that never ends is none.
func gap(text string) int {
	if strings.HasPrefix(text, lineComment) {
		return front(text, func(r rune) bool { return r != '\n' })
	}
	if inner, ok := strings.CutPrefix(text, commentFirst); ok {
		n := strings.Index(inner, commentLast)
		if n < 0 {
			return 0
		}
		return len(commentFirst) + n + len(commentLast)
	}
	return front(text, isBlank)
}

// front is how many bytes the runes that fit have at the front of a text.
func front(text string, fits func(rune) bool) int {
	for at, r := range text {
		if !fits(r) {
			return at
		}
	}
	return len(text)
}

func isBlank(r rune) bool { return r == ' ' || r == '\t' || r == '\r' || r == '\n' }

func isLetter(r rune) bool { return 'a' <= r && r <= 'z' || 'A' <= r && r <= 'Z' }

func isDigit(r rune) bool { return '0' <= r && r <= '9' }

// inWord tells whether a rune can stand in a word or a number behind its first one.
func inWord(r rune) bool { return isLetter(r) || isDigit(r) || r == '_' }
