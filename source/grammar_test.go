package source_test

import (
	"math/rand"
	"strings"
	"testing"

	"prelude/api"
	"prelude/source"
)

// grammarText is the chapter's grammar, a line for each way to make what stands first in it.
const grammarText = `
Source
Source Source Const
Source Source Proc
Const const NAME = Expr ;
Proc proc NAME ( Args ) Reads Writes Block
Args
Args Names
Reads
Reads reads Names
Writes
Writes writes Names
Names NAME
Names Names , NAME
Block { Stmts }
Stmts
Stmts Stmts Stmt
Stmt let NAME = Expr ;
Stmt NAME = Expr ;
Stmt put NAME = Expr ;
Stmt put [ Expr ] = Expr ;
Stmt del NAME ;
Stmt out Expr ;
Stmt abort Expr ;
Stmt stop ;
Stmt Cond
Stmt repeat Expr Block
Cond if Expr Block
Cond if Expr Block else Cond
Cond if Expr Block else Block
Expr Or
Expr Or ? Expr : Expr
Or And
Or Or || And
And Bits
And And && Bits
Bits Xor
Bits Bits | Xor
Xor Mask
Xor Xor ^ Mask
Mask Cmp
Mask Mask & Cmp
Cmp Shift
Cmp Shift == Shift
Cmp Shift != Shift
Cmp Shift < Shift
Cmp Shift <= Shift
Cmp Shift > Shift
Cmp Shift >= Shift
Shift Sum
Shift Shift << Sum
Shift Shift >> Sum
Sum Prod
Sum Sum + Prod
Sum Sum - Prod
Prod Unary
Prod Prod * Unary
Prod Prod / Unary
Prod Prod % Unary
Unary - Unary
Unary ! Unary
Unary Primary
Primary NUMBER
Primary NAME
Primary ( Expr )
Primary get ( NAME )
Primary get [ Expr ]
Primary has ( NAME )
Primary min ( Expr , Expr )
Primary max ( Expr , Expr )
`

// grammar is the grammar's lines, and which of them make a thing.
type grammar struct {
	lines [][]string
	of    map[string][]int
}

func newGrammar() *grammar {
	g := &grammar{of: map[string][]int{}}
	for _, line := range strings.Split(strings.TrimSpace(grammarText), "\n") {
		fields := strings.Fields(line)
		g.of[fields[0]] = append(g.of[fields[0]], len(g.lines))
		g.lines = append(g.lines, fields)
	}
	return g
}

// item is a line of the grammar that is read up to a place in it, from a token on.
type item struct {
	line, at, from int
}

// chart is all ways in which tokens may be the beginning of a source (by Earley's rules).
type chart struct {
	g    *grammar
	sets []map[item]bool
}

func newChart(g *grammar) *chart {
	c := &chart{g, []map[item]bool{{}}}
	for _, line := range g.of["Source"] {
		c.sets[0][item{line, 1, 0}] = true
	}
	c.fill()
	return c
}

// fill adds to the last set what follows from it, until nothing does.
func (c *chart) fill() {
	now := len(c.sets) - 1
	set := c.sets[now]
	for grown := true; grown; {
		grown = false
		add := func(i item) {
			if !set[i] {
				set[i] = true
				grown = true
			}
		}
		var items []item
		for i := range set {
			items = append(items, i)
		}
		for _, i := range items {
			line := c.g.lines[i.line]
			if i.at < len(line) {
				for _, l := range c.g.of[line[i.at]] {
					add(item{l, 1, now})
				}
				continue
			}
			for j := range c.sets[i.from] {
				if wants := c.g.lines[j.line]; j.at < len(wants) && wants[j.at] == line[0] {
					add(item{j.line, j.at + 1, j.from})
				}
			}
		}
	}
}

// sortOf is what the grammar calls a token.
func sortOf(k api.Token) string {
	switch k.Kind {
	case api.TName:
		return "NAME"
	case api.TNumber:
		return "NUMBER"
	}
	return k.Text
}

// read reads a token, and tells whether a source has it there; if none has, it stays as it is.
func (c *chart) read(sort string) bool {
	next := map[item]bool{}
	for i := range c.sets[len(c.sets)-1] {
		if line := c.g.lines[i.line]; i.at < len(line) && line[i.at] == sort {
			next[item{i.line, i.at + 1, i.from}] = true
		}
	}
	if len(next) == 0 {
		return false
	}
	c.sets = append(c.sets, next)
	c.fill()
	return true
}

// whole tells whether the tokens are a source.
func (c *chart) whole() bool {
	for i := range c.sets[len(c.sets)-1] {
		if line := c.g.lines[i.line]; i.from == 0 && i.at == len(line) && line[0] == "Source" {
			return true
		}
	}
	return false
}

// firstWrong is the number of the first token that no source has there behind those ahead of it, or -1; and the chart up to it.
func firstWrong(g *grammar, tokens []api.Token) (int, *chart) {
	c := newChart(g)
	for i, k := range tokens {
		if !c.read(sortOf(k)) {
			return i, c
		}
	}
	return -1, c
}

// mutated is a text's tokens with something wrong, by chance, or nothing.
func (m maker) mutated(tokens []api.Token) []string {
	all := strings.Fields(words + " " + longSigns + " " + shortSigns + " a b 1 0x2")
	out := texts(tokens)
	for range m.Intn(4) {
		i := m.Intn(len(out) + 1)
		switch {
		case i == len(out) || m.Intn(3) == 0:
			out = append(out[:i:i], append([]string{all[m.Intn(len(all))]}, out[i:]...)...)
		case m.Intn(3) == 0:
			out = append(out[:i:i], out[i+1:]...)
		case m.Intn(2) == 0:
			out[i] = all[m.Intn(len(all))]
		default:
			j := m.Intn(len(out))
			out[i], out[j] = out[j], out[i]
		}
	}
	if m.Intn(3) == 0 {
		out = out[:m.Intn(len(out)+1)]
	}
	return out
}

// small is a small source.
func (m maker) small() api.Source {
	for {
		if s := m.source(); len(mustPrint(s)) < 250 {
			return s
		}
	}
}

// 18.2, 18.7: any tokens, against the grammar by its letter.
func TestAgainstGrammar(t *testing.T) {
	g := newGrammar()
	m := maker{rand.New(rand.NewSource(187))}
	wholes, wrongs, beginnings := 0, 0, 0
	for range 2500 {
		text := strings.Join(m.mutated(tokenized(t, mustPrint(m.small()))), " ")
		tokens := tokenized(t, text)
		wrong, c := firstWrong(g, tokens)
		switch {
		case wrong >= 0:
			wrongs++
			k := tokens[wrong]
			refused(t, text, k.At.Line, k.At.Col, api.ErrSyntax)
			// 18.7: whatever follows the token and a blank.
			upTo := text[:k.At.Col-1] + k.Text
			refused(t, upTo, k.At.Line, k.At.Col, api.ErrSyntax)
			refused(t, upTo+" ) const a = 1; x", k.At.Line, k.At.Col, api.ErrSyntax)
			refused(t, upTo+"\n"+mustPrint(m.small())+strings.Repeat("(", 300), k.At.Line, k.At.Col, api.ErrSyntax)
		case c.whole():
			wholes++
			parsed(t, text)
		default:
			beginnings++
			refused(t, text, 1, len(text)+1, api.ErrSyntax)
			// 18.7: it can be ended.
			parsed(t, text+"\n"+ending(t, c))
		}
	}
	if wholes < 250 || wrongs < 700 || beginnings < 250 {
		t.Errorf("%d were sources, %d wrong, %d beginnings", wholes, wrongs, beginnings)
	}
}

// ending is tokens that make a source of a beginning of one.
func ending(t *testing.T, c *chart) string {
	t.Helper()
	var out strings.Builder
	// What ends something stands ahead of what begins something.
	order := strings.Fields(") ] : ; } = NUMBER ( { , NAME")
	for range 2000 {
		if c.whole() {
			return out.String()
		}
		for _, sort := range order {
			if c.read(sort) {
				out.WriteString(strings.NewReplacer("NUMBER", "1", "NAME", "a").Replace(sort) + " ")
				break
			}
		}
	}
	t.Fatalf("there is no end of it: %q", out.String())
	return ""
}

// 18.2: behind each beginning each token, against the grammar by its letter.
func TestEachTokenBehindEach(t *testing.T) {
	g := newGrammar()
	all := strings.Fields(words + " " + longSigns + " " + shortSigns + " a 1")
	const text = "const a = - 1 ? 2 : min ( b || 3 , get [ 4 ] ) ; proc p ( a , b ) reads r , s writes w { let x = has ( r ) ; if x < get ( s ) { put w = 1 ; } else if a { put [ 0 ] = 1 ; } else { del w ; } repeat 2 { out x ; } abort 1 ; x = 2 & 3 ; stop ; }"
	tokens := tokenized(t, text)
	c := newChart(g)
	for i := 0; ; i++ {
		ahead := strings.Join(texts(tokens[:i]), " ") + " "
		for _, next := range all {
			k := tokenized(t, next)[0]
			if sets := len(c.sets); c.read(sortOf(k)) {
				_, err := source.Parse(ahead + next)
				if pos, ok := err.(*api.PosError); c.whole() != (err == nil) || ok && pos.Col != len(ahead+next)+1 {
					t.Errorf("%q: %v", ahead+next, err)
				}
				c.sets = c.sets[:sets]
			} else {
				refused(t, ahead+next, 1, len(ahead)+1, api.ErrSyntax)
			}
		}
		if i == len(tokens) {
			break
		}
		if !c.read(sortOf(tokens[i])) {
			t.Fatalf("%q is no source", text)
		}
	}
}

// 18.7: a token that stands too deep is that whatever follows; where a beginning is too deep to be ended, it is still one.
func TestLimitWhateverFollows(t *testing.T) {
	for _, deep := range []string{"(", "-", "1 ? ", "1 ? 2 : ", "get[", "min(1, ", "!"} {
		text := "const a = " + strings.Repeat(deep, 205)
		_, err := source.Parse(text)
		pos, ok := err.(*api.PosError)
		if !ok || pos.Err != error(api.ErrLimit) {
			t.Fatalf("%q: %v", deep, err)
		}
		// The token that is too deep has one byte.
		upTo := text[:pos.Col]
		for _, more := range []string{"", " ", " 1;", "\n)", "\tif", " " + strings.Repeat("(", 500), " const 1", " ;"} {
			refused(t, upTo+more, 1, pos.Col, api.ErrLimit)
		}
	}
}
