package source_test

import (
	"errors"
	"fmt"
	"reflect"
	"strings"
	"testing"

	"prelude/api"
	"prelude/source"
)

// at is a place.
func at(line, col int) api.Spot { return api.Spot{Line: line, Col: col} }

// parsed asks that a text is a source, and is its tree.
func parsed(t *testing.T, text string) api.Source {
	t.Helper()
	s, err := source.Parse(text)
	if err != nil {
		t.Fatalf("Parse(%.300q) is %v", text, err)
	}
	return s
}

// refused asks that a text is refused at a place, by an error.
func refused(t *testing.T, text string, line, col int, want api.Errno) {
	t.Helper()
	s, err := source.Parse(text)
	pos, ok := err.(*api.PosError)
	if !ok || pos.Line != line || pos.Col != col || pos.Err != error(want) || !errors.Is(err, want) {
		t.Errorf("Parse(%.300q) is %v, want %d:%d, %d", text, err, line, col, want)
	}
	if s.Consts != nil || s.Procs != nil {
		t.Errorf("Parse(%.300q): beside an error there is a tree", text)
	}
}

// printed asks that a tree is written, and is its text.
func printed(t *testing.T, s api.Source) string {
	t.Helper()
	text, e := source.Print(s)
	if e != api.OK {
		t.Fatalf("Print(%.300s) is %d", fmt.Sprint(s), e)
	}
	return text
}

// unprinted asks that a tree is refused by an error.
func unprinted(t *testing.T, s api.Source, want api.Errno) {
	t.Helper()
	if text, e := source.Print(s); text != "" || e != want {
		t.Errorf("Print of that is %.80q, %d, want %d", text, e, want)
	}
}

// same tells whether two trees are the same but for places; whether an empty list is nil doesn't count.
func same(a, b api.Source) bool { return reflect.DeepEqual(bare(a), bare(b)) }

// bare is a copy of a tree without places, its empty lists nil.
func bare(s api.Source) api.Source {
	var out api.Source
	for _, c := range s.Consts {
		out.Consts = append(out.Consts, api.Const{Name: c.Name, X: bareExpr(c.X)})
	}
	for _, d := range s.Procs {
		out.Procs = append(out.Procs, api.Define{Name: d.Name, Args: bareNames(d.Args), Reads: bareNames(d.Reads), Writes: bareNames(d.Writes), Body: bareStmts(d.Body)})
	}
	return out
}

func bareNames(names []api.Name) []api.Name {
	var out []api.Name
	for _, n := range names {
		out = append(out, api.Name{Text: n.Text})
	}
	return out
}

func bareStmts(stmts []api.Stmt) []api.Stmt {
	var out []api.Stmt
	for _, s := range stmts {
		s.X, s.Y, s.Body, s.Else, s.At = bareExpr(s.X), bareExpr(s.Y), bareStmts(s.Body), bareStmts(s.Else), api.Spot{}
		out = append(out, s)
	}
	return out
}

func bareExpr(x api.Expr) api.Expr {
	var args []api.Expr
	for _, a := range x.Args {
		args = append(args, bareExpr(a))
	}
	x.Args, x.At = args, api.Spot{}
	return x
}

// The parts of trees.

func num(n int64) api.Expr { return api.Expr{Kind: api.ENum, N: n} }

func named(s string) api.Expr { return api.Expr{Kind: api.EName, Name: s} }

func of(kind, op int, args ...api.Expr) api.Expr { return api.Expr{Kind: kind, Op: op, Args: args} }

func two(op int, x, y api.Expr) api.Expr { return of(api.EBinary, op, x, y) }

func neg(x api.Expr) api.Expr { return of(api.EUnary, api.INeg, x) }

func not(x api.Expr) api.Expr { return of(api.EUnary, api.INot, x) }

func names(texts ...string) []api.Name {
	var out []api.Name
	for _, s := range texts {
		out = append(out, api.Name{Text: s})
	}
	return out
}

// constant is the source of one constant.
func constant(x api.Expr) api.Source {
	return api.Source{Consts: []api.Const{{Name: "a", X: x}}}
}

// procedure is the source of one procedure without args.
func procedure(body ...api.Stmt) api.Source {
	return api.Source{Procs: []api.Define{{Name: "p", Body: body}}}
}

// exprOf is the expression that a text is, without its places.
func exprOf(t *testing.T, text string) api.Expr {
	t.Helper()
	return bareExpr(parsed(t, "const a = "+text+";").Consts[0].X)
}

// textOf is the text of an expression.
func textOf(t *testing.T, x api.Expr) string {
	t.Helper()
	return strings.TrimSuffix(strings.TrimPrefix(printed(t, constant(x)), "const a = "), ";\n")
}

// stays asks that texts of expressions are written as they stand.
func stays(t *testing.T, texts ...string) {
	t.Helper()
	for _, text := range texts {
		becomes(t, text, text)
	}
}

// becomes asks that a text of an expression is written otherwise once it was read.
func becomes(t *testing.T, text, want string) {
	t.Helper()
	if got := textOf(t, exprOf(t, text)); got != want {
		t.Errorf("%q is written %q, want %q", text, got, want)
	}
}

// Examples 1 and 2.
func TestExampleProcedure(t *testing.T) {
	s := parsed(t, "proc p(v) writes k { put k = v + 1; }")
	want := api.Source{Procs: []api.Define{{
		Name: "p", At: at(1, 6),
		Args:   []api.Name{{Text: "v", At: at(1, 8)}},
		Writes: []api.Name{{Text: "k", At: at(1, 18)}},
		Body: []api.Stmt{{Kind: api.SPut, Name: "k", At: at(1, 22), X: api.Expr{
			Kind: api.EBinary, Op: api.IAdd, At: at(1, 32), Args: []api.Expr{
				{Kind: api.EName, Name: "v", At: at(1, 30)},
				{Kind: api.ENum, N: 1, At: at(1, 34)},
			}}}},
	}}}
	if !reflect.DeepEqual(s, want) {
		t.Errorf("is %v, want %v", s, want)
	}
	if text := printed(t, s); text != "proc p(v) writes k {\n  put k = v + 1;\n}\n" {
		t.Errorf("is written %q", text)
	}
}

// Examples 3 and 4.
func TestExampleExpressions(t *testing.T) {
	a, b, c := named("a"), named("b"), named("c")
	x, y := named("x"), named("y")
	for text, want := range map[string]api.Expr{
		"a - b - c":           two(api.ISub, two(api.ISub, a, b), c),
		"a - (b - c)":         two(api.ISub, a, two(api.ISub, b, c)),
		"(a * b) + c":         two(api.IAdd, two(api.IMul, a, b), c),
		"-x - -y":             two(api.ISub, neg(x), neg(y)),
		"!(a < b)":            not(two(api.ILt, a, b)),
		"(!a) < b":            two(api.ILt, not(a), b),
		"c ? a : d ? x : y":   of(api.ECond, 0, c, a, of(api.ECond, 0, named("d"), x, y)),
		"(c ? a : b) ? x : y": of(api.ECond, 0, of(api.ECond, 0, c, a, b), x, y),
	} {
		if got := exprOf(t, text); !reflect.DeepEqual(got, want) {
			t.Errorf("%q is %v, want %v", text, got, want)
		}
	}
	stays(t, "a - b - c", "a - (b - c)", "-x - -y", "!(a < b)", "c ? a : d ? x : y", "(c ? a : b) ? x : y")
	becomes(t, "(a * b) + c", "a * b + c")
	becomes(t, "(!a) < b", "!a < b")
	refused(t, "const a = a < b < c;", 1, 17, api.ErrSyntax)
}

// Example 5.
func TestExamplePlaces(t *testing.T) {
	for _, c := range []struct {
		text      string
		line, col int
		e         api.Errno
	}{
		{"proc", 1, 5, api.ErrSyntax},
		{"proc p", 1, 7, api.ErrSyntax},
		{"proc p()\n", 2, 1, api.ErrSyntax},
		{"const a = 1", 1, 12, api.ErrSyntax},
		{"const if = 1;", 1, 7, api.ErrSyntax},
		{"x", 1, 1, api.ErrSyntax},
		{"const a = 08;", 1, 11, api.ErrNumber},
		{"const a = 9223372036854775808;", 1, 11, api.ErrNumber},
		{"const a = 0xG;", 1, 11, api.ErrNumber},
		{"@", 1, 1, api.ErrLex},
		{"a /* b", 1, 3, api.ErrLex},
	} {
		refused(t, c.text, c.line, c.col, c.e)
	}
}

// Examples 6 and 7.
func TestExampleForms(t *testing.T) {
	if x := exprOf(t, "0xffffffffffffffff"); !reflect.DeepEqual(x, num(-1)) {
		t.Errorf("is %v", x)
	}
	if x := exprOf(t, "0x10"); !reflect.DeepEqual(x, num(16)) {
		t.Errorf("is %v", x)
	}
	stays(t, "0xffffffffffffffff")
	becomes(t, "0x10", "16")
	s := parsed(t, "proc p() { if a { } else { } }")
	if !same(s, procedure(api.Stmt{Kind: api.SIf, X: named("a")})) {
		t.Errorf("is %v", s)
	}
	if text := printed(t, s); text != "proc p() {\n  if a {\n  }\n}\n" {
		t.Errorf("is written %q", text)
	}
}

// Example 8.
func TestExampleNest(t *testing.T) {
	const ahead = "const a = "
	in := func(n int) string {
		return ahead + strings.Repeat("(", n) + "1" + strings.Repeat(")", n) + ";"
	}
	if s := parsed(t, in(200)); !same(s, constant(num(1))) {
		t.Errorf("is %v", s)
	}
	refused(t, in(201), 1, 211, api.ErrLimit)
	refused(t, ahead+strings.Repeat("-", 201)+"1;", 1, 211, api.ErrLimit)
	x := num(1)
	for range 200 {
		x = neg(x)
	}
	if text := printed(t, constant(x)); text != ahead+strings.Repeat("-", 200)+"1;\n" {
		t.Errorf("is written %q", text)
	}
	unprinted(t, constant(neg(x)), api.ErrLimit)
}

// Example 9.
func TestExampleTrees(t *testing.T) {
	unprinted(t, constant(api.Expr{Kind: api.ENum, Name: "a"}), api.ErrTree)
	unprinted(t, constant(named("if")), api.ErrTree)
	unprinted(t, constant(two(api.INeg, num(1), num(2))), api.ErrTree)
}
