package asm

import (
	"prelude/api"
	"prelude/codec"
)

// The words that stand in the first and the last line of a procedure, beside its name and its numbers.
const (
	procWord = "proc"
	endWord  = "end"
)

// numberWords is the words that stand ahead of the four numbers of a procedure.
var numberWords = [4]string{"args", "reads", "writes", "locals"}

// word is a word of a line, and the column of its first byte.
type word struct {
	text string
	col  int
}

// split is the lines of a text, each as its words.
func split(text string) [][]word {
	const none = -1
	var lines [][]word
	var words []word
	lineFrom, wordFrom, inComment := 0, none, false
	// The line feed behind the text ends its last word and line as any other one; if the text had one there, a line without words is left over.
	for at, c := range text + "\n" {
		if wordFrom != none && endsWord(c) {
			words = append(words, word{text: text[wordFrom:at], col: wordFrom - lineFrom + 1})
			wordFrom = none
		}
		switch {
		case c == '\n':
			lines = append(lines, words)
			words, lineFrom, inComment = nil, at+1, false
		case c == '#':
			inComment = true
		case !inComment && !endsWord(c) && wordFrom == none:
			wordFrom = at
		}
	}
	return lines
}

// endsWord tells whether a rune can't stand in a word. Those that can't are single bytes, that are part of no other rune: so it is as if bytes were asked.
func endsWord(c rune) bool {
	switch c {
	case ' ', '\t', '\r', '\n', '#':
		return true
	}
	return false
}

// reader goes through a line: the words that are still to be read, and the column behind the last one that was.
type reader struct {
	words  []word
	behind int
}

// next reads a word.
func (r *reader) next() (word, error) {
	if len(r.words) == 0 {
		return word{}, wrong(r.behind, api.ErrWord)
	}
	w := r.words[0]
	r.words = r.words[1:]
	r.behind = w.col + len(w.text)
	return w, nil
}

// must reads the one word that can stand there.
func (r *reader) must(text string) error {
	w, err := r.next()
	if err != nil {
		return err
	}
	if w.text != text {
		return wrong(w.col, api.ErrWord)
	}
	return nil
}

// number reads a number.
func (r *reader) number() (int64, error) {
	w, err := r.next()
	if err != nil {
		return 0, err
	}
	n, ok := codec.Number(w.text)
	if !ok {
		return 0, wrong(w.col, api.ErrNumber)
	}
	return n, nil
}

// end asks that no word is left.
func (r *reader) end() error {
	if len(r.words) > 0 {
		return wrong(r.words[0].col, api.ErrWord)
	}
	return nil
}

// wrong is an error at a column of a line whose number is not known there.
func wrong(col int, e api.Errno) error { return wrongAt(api.Spot{Col: col}, e) }

// wrongAt is an error at a place.
func wrongAt(at api.Spot, err error) error {
	return &api.PosError{Line: at.Line, Col: at.Col, Err: err}
}
