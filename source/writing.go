package source

import (
	"strconv"
	"strings"

	"prelude/api"
	"prelude/codec"
)

// writing is a text that is being written, of a tree that can be.
type writing struct {
	out   []byte
	parts int // how many statements and expressions were begun
}

// full tells whether the text gets too long. Each part has a byte of its own: too many of them are too many bytes, even where, as in a list that stands within itself, none is ever written.
func (w *writing) full() bool { return len(w.out) > api.MaxText || w.parts > api.MaxText }

// begin begins a part, and tells whether it is worth writing.
func (w *writing) begin() bool {
	w.parts++
	return !w.full()
}

// add writes texts, unless the text is too long already.
func (w *writing) add(texts ...string) {
	for _, s := range texts {
		if !w.full() {
			w.out = append(w.out, s...)
		}
	}
}

// source writes all of a source.
func (w *writing) source(s api.Source) {
	for _, c := range s.Consts {
		w.add("const ", c.Name, " = ")
		w.whole(c.X)
		w.add(";\n")
	}
	for _, d := range s.Procs {
		w.procedure(d)
	}
}

// procedure writes a procedure.
func (w *writing) procedure(d api.Define) {
	w.add("proc ", d.Name, "(")
	w.names("", d.Args)
	w.add(")")
	w.names(" reads ", d.Reads)
	w.names(" writes ", d.Writes)
	w.add(" ")
	w.block(0, d.Body)
	w.add("\n")
}

// names writes a list of names and what stands ahead of it, if it has any.
func (w *writing) names(ahead string, names []api.Name) {
	for _, n := range names {
		w.add(ahead, n.Text)
		ahead = ", "
	}
}

// block writes a block within so many others, up to the bracket that closes it.
func (w *writing) block(deep int, stmts []api.Stmt) {
	w.add("{\n")
	for _, s := range stmts {
		if w.begin() {
			w.indent(deep + 1)
			w.stmt(deep+1, s)
			w.add("\n")
		}
	}
	w.indent(deep)
	w.add("}")
}

// indent writes the spaces ahead of a line within so many blocks.
func (w *writing) indent(deep int) { w.add(strings.Repeat("  ", deep)) }

// stmt writes a statement within so many blocks.
func (w *writing) stmt(deep int, s api.Stmt) {
	switch s.Kind {
	case api.SIf:
		w.condition(deep, s)
	case api.SRepeat:
		w.add("repeat ")
		w.whole(s.X)
		w.add(" ")
		w.block(deep, s.Body)
	default:
		w.simple(s)
		w.add(";")
	}
}

// condition writes an if and what hangs on it.
func (w *writing) condition(deep int, s api.Stmt) {
	w.add("if ")
	w.whole(s.X)
	w.add(" ")
	w.block(deep, s.Body)
	switch {
	case len(s.Else) == 1 && s.Else[0].Kind == api.SIf:
		w.add(" else ")
		if w.begin() {
			w.condition(deep, s.Else[0])
		}
	case len(s.Else) > 0:
		w.add(" else ")
		w.block(deep, s.Else)
	}
}

// simple writes a statement that has no block, up to its semicolon.
func (w *writing) simple(s api.Stmt) {
	switch s.Kind {
	case api.SLet:
		w.assignment("let ", s)
	case api.SSet:
		w.assignment("", s)
	case api.SPut:
		w.assignment("put ", s)
	case api.SPutX:
		w.add("put [")
		w.whole(s.X)
		w.add("] = ")
		w.whole(s.Y)
	case api.SDel:
		w.add("del ", s.Name)
	case api.SOut:
		w.add("out ")
		w.whole(s.X)
	case api.SAbort:
		w.add("abort ")
		w.whole(s.X)
	case api.SStop:
		w.add("stop")
	}
}

// assignment writes a name and what it is given.
func (w *writing) assignment(word string, s api.Stmt) {
	w.add(word, s.Name, " = ")
	w.whole(s.X)
}

// whole writes an expression where any one may stand.
func (w *writing) whole(x api.Expr) { w.expr(rankExpr, x) }

// expr writes an expression where one of a rank may stand, or one of a higher rank.
func (w *writing) expr(rank int, x api.Expr) {
	switch {
	case !w.begin():
	case rankOf(x) < rank:
		w.add("(")
		w.bare(x)
		w.add(")")
	default:
		w.bare(x)
	}
}

// rankOf is the line of the grammar that an expression is of.
func rankOf(x api.Expr) int {
	switch x.Kind {
	case api.ECond:
		return rankExpr
	case api.EUnary:
		return rankUnary
	}
	if j, ok := jointIn(x); ok {
		return j.rank
	}
	return rankPrimary
}

// bare writes an expression without parentheses around it.
func (w *writing) bare(x api.Expr) {
	switch x.Kind {
	case api.ENum:
		w.add(numberText(x.N))
	case api.EName:
		w.add(x.Name)
	case api.EGet:
		w.add("get(", x.Name, ")")
	case api.EHas:
		w.add("has(", x.Name, ")")
	case api.EGetX:
		w.add("get[")
		w.whole(x.Args[0])
		w.add("]")
	case api.EUnary:
		w.add(signOfUnary(x.Op))
		w.expr(rankUnary, x.Args[0])
	case api.ECond:
		w.expr(rankOr, x.Args[0])
		w.add(" ? ")
		w.whole(x.Args[1])
		w.add(" : ")
		w.whole(x.Args[2])
	default:
		w.two(x)
	}
}

// two writes an expression that has a sign between two, or a word ahead of them.
func (w *writing) two(x api.Expr) {
	j, ok := jointIn(x)
	if !ok {
		w.add(wordOfTwo(x.Op), "(")
		w.whole(x.Args[0])
		w.add(", ")
		w.whole(x.Args[1])
		w.add(")")
		return
	}
	left := j.rank
	if joinsOnce(j.rank) {
		left = j.rank + 1
	}
	w.expr(left, x.Args[0])
	w.add(" ", j.sign, " ")
	w.expr(j.rank+1, x.Args[1])
}

// numberText is a number as it is written: one below 0 by its bits, as a sign ahead of it would be an expression of its own.
func numberText(n int64) string {
	if n < 0 {
		return bitsMark + strconv.FormatUint(uint64(n), 16)
	}
	return codec.Digits(n)
}
