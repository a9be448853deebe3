package source_test

import (
	"math"
	"math/rand"
	"strings"
	"testing"

	"prelude/api"
	"prelude/source"
)

// maker makes trees by chance.
type maker struct {
	*rand.Rand
}

func (m maker) name() string {
	list := []string{"a", "b", "x1", "Fee", "i_f", "reads_", "Z9", "consts", "gets", "m"}
	return list[m.Intn(len(list))]
}

func (m maker) names() []api.Name {
	var out []api.Name
	for range m.Intn(4) {
		out = append(out, api.Name{Text: m.name()})
	}
	return out
}

func (m maker) number() int64 {
	list := []int64{0, 1, 9, 10, 255, math.MaxInt64, math.MinInt64, -1, -255}
	if m.Intn(2) == 0 {
		return list[m.Intn(len(list))]
	}
	return m.Int63() - m.Int63()
}

// expr is an expression that is at most so deep.
func (m maker) expr(deep int) api.Expr {
	kind := api.ENum + m.Intn(api.ECond)
	if deep == 0 {
		kind = api.ENum + m.Intn(4)
	}
	part := func() api.Expr { return m.expr(m.Intn(deep)) }
	switch kind {
	case api.ENum:
		return num(m.number())
	case api.EName, api.EGet, api.EHas:
		return api.Expr{Kind: kind, Name: m.name()}
	case api.EGetX:
		return of(kind, 0, part())
	case api.EUnary:
		return of(kind, api.INeg+m.Intn(2), part())
	case api.EBinary:
		ops := []int{api.IAdd, api.ISub, api.IMul, api.IDiv, api.IMod, api.IAnd, api.IOr, api.IXor, api.IShl, api.IShr, api.IEq, api.INe, api.ILt, api.ILe, api.IGt, api.IGe, api.IMin, api.IMax}
		return of(kind, ops[m.Intn(len(ops))], part(), part())
	case api.ECond:
		return of(kind, 0, part(), part(), part())
	}
	return of(kind, 0, part(), part())
}

// stmts is statements that are at most so deep.
func (m maker) stmts(deep int) []api.Stmt {
	var out []api.Stmt
	for range m.Intn(4) {
		out = append(out, m.stmt(deep))
	}
	return out
}

func (m maker) stmt(deep int) api.Stmt {
	kind := api.SLet + m.Intn(api.SRepeat)
	if deep == 0 {
		kind = api.SLet + m.Intn(8)
	}
	s := api.Stmt{Kind: kind}
	switch kind {
	case api.SLet, api.SSet, api.SPut, api.SDel:
		s.Name = m.name()
	case api.SIf:
		s.Body, s.Else = m.stmts(deep-1), m.stmts(deep-1)
	case api.SRepeat:
		s.Body = m.stmts(deep - 1)
	case api.SPutX:
		s.Y = m.expr(3)
	}
	if kind != api.SDel && kind != api.SStop {
		s.X = m.expr(m.Intn(5))
	}
	return s
}

func (m maker) source() api.Source {
	var s api.Source
	for range m.Intn(3) {
		s.Consts = append(s.Consts, api.Const{Name: m.name(), X: m.expr(m.Intn(6))})
	}
	for range m.Intn(3) {
		s.Procs = append(s.Procs, api.Define{Name: m.name(), Args: m.names(), Reads: m.names(), Writes: m.names(), Body: m.stmts(3)})
	}
	return s
}

// 18.5: what Print writes, Parse reads back as the tree that was written; and it is written the same way again.
func TestThereAndBack(t *testing.T) {
	m := maker{rand.New(rand.NewSource(185))}
	for range 3000 {
		s := m.source()
		text := printed(t, s)
		again := parsed(t, text)
		if !same(s, again) {
			t.Fatalf("%q is read back as %v, was %v", text, again, s)
		}
		if twice := printed(t, again); twice != text {
			t.Fatalf("%q is written %q the second time", text, twice)
		}
	}
}

// pairs is the places of the parentheses that stand around an expression, in pairs.
func pairs(tokens []api.Token) [][2]int {
	var out [][2]int
	var open []int
	for i, k := range tokens {
		switch k.Text {
		case "(":
			open = append(open, i)
		case ")":
			from := open[len(open)-1]
			open = open[:len(open)-1]
			ahead := tokens[from-1]
			if ahead.Kind == api.TName || strings.Contains(" get has min max ", " "+ahead.Text+" ") {
				continue
			}
			out = append(out, [2]int{from, i})
		}
	}
	return out
}

// without is a text of tokens, some of them left out.
func without(tokens []api.Token, out ...int) string {
	var text strings.Builder
	for i, k := range tokens {
		left := false
		for _, o := range out {
			left = left || o == i
		}
		if !left {
			text.WriteString(k.Text + " ")
		}
	}
	return text.String()
}

// 18.3: parentheses stand just where the grammar has no other way: without any pair of them it is another tree, or none.
func TestNoParenthesesTooMany(t *testing.T) {
	m := maker{rand.New(rand.NewSource(183))}
	n := 0
	for range 4000 {
		s := constant(m.expr(6))
		tokens := tokenized(t, printed(t, s))
		for _, p := range pairs(tokens) {
			n++
			text := without(tokens, p[0], p[1])
			if other, err := source.Parse(text); err == nil && same(s, other) {
				t.Fatalf("%q: a pair of parentheses is not needed", without(tokens))
			}
		}
	}
	if n < 500 {
		t.Errorf("there were %d pairs", n)
	}
}

// loose is a text of a tree as people write it: with more parentheses, and blocks for an else with an if.
func (m maker) loose(s api.Source) string {
	var out strings.Builder
	for _, c := range s.Consts {
		out.WriteString("const " + c.Name + "=" + m.looseExpr(c.X) + ";")
	}
	list := func(word string, names []api.Name) string {
		for i, n := range names {
			if i > 0 {
				word = ","
			}
			out.WriteString(word + " " + n.Text)
		}
		return ""
	}
	for _, d := range s.Procs {
		out.WriteString("proc " + d.Name + "(")
		list("", d.Args)
		out.WriteString(")")
		list("reads", d.Reads)
		list(" writes", d.Writes)
		out.WriteString(m.looseBlock(d.Body))
	}
	return out.String()
}

func (m maker) looseBlock(stmts []api.Stmt) string {
	out := "{"
	for _, s := range stmts {
		out += m.looseStmt(s)
	}
	return out + "}"
}

func (m maker) looseStmt(s api.Stmt) string {
	switch s.Kind {
	case api.SLet:
		return "let " + s.Name + "=" + m.looseExpr(s.X) + ";"
	case api.SSet:
		return s.Name + "=" + m.looseExpr(s.X) + ";"
	case api.SPut:
		return "put " + s.Name + "=" + m.looseExpr(s.X) + ";"
	case api.SPutX:
		return "put[" + m.looseExpr(s.X) + "]=" + m.looseExpr(s.Y) + ";"
	case api.SDel:
		return "del " + s.Name + ";"
	case api.SOut:
		return "out " + m.looseExpr(s.X) + ";"
	case api.SAbort:
		return "abort " + m.looseExpr(s.X) + ";"
	case api.SStop:
		return "stop;"
	case api.SRepeat:
		return "repeat " + m.looseExpr(s.X) + m.looseBlock(s.Body)
	}
	out := "if " + m.looseExpr(s.X) + m.looseBlock(s.Body)
	switch {
	case len(s.Else) == 1 && s.Else[0].Kind == api.SIf && m.Intn(2) == 0:
		return out + "else " + m.looseStmt(s.Else[0])
	case len(s.Else) > 0 || m.Intn(2) == 0:
		return out + "else" + m.looseBlock(s.Else)
	}
	return out
}

// looseExpr has parentheses around each part, and here and there some more.
func (m maker) looseExpr(x api.Expr) string {
	part := func(i int) string { return "(" + m.looseExpr(x.Args[i]) + ")" }
	var out string
	switch x.Kind {
	case api.ENum, api.EName, api.EGet, api.EHas, api.EGetX:
		out = strings.TrimSuffix(strings.TrimPrefix(mustPrint(constant(x)), "const a = "), ";\n")
	case api.EUnary:
		out = map[int]string{api.INeg: "-", api.INot: "!"}[x.Op] + part(0)
	case api.ECond:
		out = part(0) + "?" + part(1) + ":" + part(2)
	default:
		for _, b := range betweens() {
			if b.kind == x.Kind && b.op == x.Op {
				out = part(0) + b.sign + part(1)
			}
		}
		if out == "" {
			out = map[int]string{api.IMin: "min(", api.IMax: "max("}[x.Op] + part(0) + "," + part(1) + ")"
		}
	}
	for m.Intn(3) == 0 {
		out = "(" + out + ")"
	}
	return out
}

func mustPrint(s api.Source) string {
	text, e := source.Print(s)
	if e != api.OK {
		panic(e)
	}
	return text
}

// 18.5: what Parse reads, Print writes, whatever it looked like; and that is read as the same tree.
func TestBackAndThere(t *testing.T) {
	m := maker{rand.New(rand.NewSource(1850))}
	for range 2000 {
		s := m.source()
		text := m.loose(s)
		got := parsed(t, text)
		if !same(s, got) {
			t.Fatalf("%q is %v, want %v", text, got, s)
		}
		if one, other := printed(t, got), printed(t, s); one != other || !same(got, parsed(t, one)) {
			t.Fatalf("%q is written %q and %q", text, one, other)
		}
	}
}
