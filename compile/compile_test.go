package compile_test

import (
	"errors"
	"fmt"
	"reflect"
	"strings"
	"testing"

	"prelude/api"
	"prelude/asm"
	"prelude/compile"
	"prelude/source"
)

// built asks that a text is built, and is its library.
func built(t *testing.T, text string) []api.Proc {
	t.Helper()
	lib, err := compile.Build(text)
	if err != nil {
		t.Fatalf("Build(%.300q) is %v", text, err)
	}
	return lib
}

// compiled asks that a tree is compiled, and is its library.
func compiled(t *testing.T, s api.Source) []api.Proc {
	t.Helper()
	lib, err := compile.Compile(s)
	if err != nil {
		t.Fatalf("Compile(%.300s) is %v", fmt.Sprint(s), err)
	}
	return lib
}

// isWrong asks that an error is one at a place, and that nothing stands beside it.
func isWrong(t *testing.T, what string, lib []api.Proc, err error, line, col int, want api.Errno) {
	t.Helper()
	pos, ok := err.(*api.PosError)
	if !ok || pos.Line != line || pos.Col != col || pos.Err != error(want) || !errors.Is(err, want) {
		t.Errorf("%.300s is %v, want %d:%d, %d", what, err, line, col, want)
	}
	if lib != nil {
		t.Errorf("%.300s: beside an error there is a library", what)
	}
}

// refused asks that a text is refused at a place of its first line.
func refused(t *testing.T, text string, col int, want api.Errno) {
	t.Helper()
	lib, err := compile.Build(text)
	isWrong(t, fmt.Sprintf("Build(%q)", text), lib, err, 1, col, want)
}

// refusedAt asks that a text is refused at the mark ^ in it, which is no sign of these texts.
func refusedAt(t *testing.T, marked string, want api.Errno) {
	t.Helper()
	ahead, behind, ok := strings.Cut(marked, "^")
	if !ok {
		t.Fatalf("%q has no mark", marked)
	}
	refused(t, ahead+behind, len(ahead)+1, want)
}

// refusedTree asks that a tree is refused at a place.
func refusedTree(t *testing.T, s api.Source, at api.Spot, want api.Errno) {
	t.Helper()
	lib, err := compile.Compile(s)
	isWrong(t, "Compile of the tree", lib, err, at.Line, at.Col, want)
}

// spelled is a program's instructions as the chapter writes them.
func spelled(p api.Program) string {
	var out []string
	for _, in := range p.Code {
		out = append(out, word(in))
	}
	return strings.Join(out, ", ")
}

// codeOf is the code of the only procedure of a text.
func codeOf(t *testing.T, text string) string {
	t.Helper()
	lib := built(t, text)
	if len(lib) != 1 {
		t.Fatalf("%q has %d procedures", text, len(lib))
	}
	return spelled(lib[0].Program)
}

// writes asks that a text has this code.
func writes(t *testing.T, text, want string) {
	t.Helper()
	if got := codeOf(t, text); got != want {
		t.Errorf("%q is\n%s, want\n%s", text, got, want)
	}
}

// sameLibrary tells whether two libraries are the same; whether an empty list is nil doesn't count.
func sameLibrary(a, b []api.Proc) bool {
	if len(a) != len(b) {
		return false
	}
	for i := range a {
		p, q := a[i].Program, b[i].Program
		sameCode := len(p.Code) == 0 && len(q.Code) == 0 || reflect.DeepEqual(p.Code, q.Code)
		p.Code, q.Code = nil, nil
		if a[i].Name != b[i].Name || !reflect.DeepEqual(p, q) || !sameCode {
			return false
		}
	}
	return true
}

// parsed is the tree of a text.
func parsed(t *testing.T, text string) api.Source {
	t.Helper()
	s, err := source.Parse(text)
	if err != nil {
		t.Fatalf("Parse(%.300q) is %v", text, err)
	}
	return s
}

// The parts of trees.

func num(n int64) api.Expr { return api.Expr{Kind: api.ENum, N: n} }

func named(s string) api.Expr { return api.Expr{Kind: api.EName, Name: s} }

func of(kind, op int, args ...api.Expr) api.Expr { return api.Expr{Kind: kind, Op: op, Args: args} }

func two(op int, x, y api.Expr) api.Expr { return of(api.EBinary, op, x, y) }

func neg(x api.Expr) api.Expr { return of(api.EUnary, api.INeg, x) }

func out(x api.Expr) api.Stmt { return api.Stmt{Kind: api.SOut, X: x} }

// procedure is the source of one procedure without args.
func procedure(body ...api.Stmt) api.Source {
	return api.Source{Procs: []api.Define{{Name: "p", Body: body, At: api.Spot{Line: 7, Col: 8}}}}
}

// Examples 1 and 2, held against the listing of chapter 4's example.
func TestExampleLibrary(t *testing.T) {
	lib := built(t, `
proc move(amount) reads from, to writes from, to { if get(from) < amount { abort 1; } put from = get(from) - amount; put to = get(to) + amount; }
proc put_(v) writes k { put k = v; }`)
	want, err := asm.Assemble(`
proc move args 1 reads 2 writes 2 locals 0
  get 0
  arg 0
  lt
  zero enough
  push 1
  abort
enough:
  get 0
  arg 0
  sub
  put 0
  get 1
  arg 0
  add
  put 1
end
proc put_ args 1 reads 0 writes 1 locals 0
  arg 0
  put 0
end
`)
	if err != nil || !sameLibrary(lib, want) {
		t.Errorf("is %v, want %v, %v", lib, want, err)
	}
	writes(t, "proc set(v) writes k { put k = v; }", "arg 0, put 0")
}

// Examples 3 and 4.
func TestExampleCode(t *testing.T) {
	writes(t, "const two = 1 + 1; proc p() { repeat two { out two * 2; } }", "push 2, push 2, mul, out, push 2, push 2, mul, out")
	writes(t, "proc p(a) { out a && 2; }", "arg 0, zero 6, push 2, zero 6, push 1, jump 7, push 0, out")
	writes(t, "proc p(a) { out a || 2; }", "arg 0, zero 4, push 1, jump 9, push 2, zero 8, push 1, jump 9, push 0, out")
	writes(t, "proc p(a) { out a ? 1 : 2; }", "arg 0, zero 4, push 1, jump 5, push 2, out")
}

// Example 5.
func TestExampleSlots(t *testing.T) {
	const text = "proc p() { let a = 1; if a { let b = 2; out b; } let c = 3; out c; }"
	writes(t, text, "push 1, save 0, load 0, zero 8, push 2, save 1, load 1, out, push 3, save 1, load 1, out")
	if p := built(t, text)[0].Program; p.Locals != 2 {
		t.Errorf("%d locals", p.Locals)
	}
}

// Examples 6 and 7.
func TestExampleErrors(t *testing.T) {
	refused(t, "proc p() { out x; }", 16, api.ErrUnknown)
	refused(t, "proc p() { let a = 1; let a = 2; }", 23, api.ErrAgain)
	refused(t, "const a = 1; proc p() { a = 2; }", 25, api.ErrSort)
	refused(t, "const a = 1 / 0;", 13, api.ErrFold)
	refused(t, "const a = b;", 11, api.ErrUnknown)
	refused(t, "proc p(a) { repeat a { } }", 20, api.ErrSort)
	refused(t, "proc p() { repeat 257 { } }", 19, api.ErrLimit)
	refused(t, "proc p(a, a) { }", 11, api.ErrAgain)
	refused(t, "proc p() { repeat 200 { out 1; } }", 6, api.ErrLarge)
	// 33 values that wait on the stack.
	refused(t, "proc p() { out "+strings.Repeat("1 + (", 32)+"1"+strings.Repeat(")", 32)+"; }", 6, api.ErrLarge)
}

// Example 8.
func TestExampleConstants(t *testing.T) {
	writes(t, "const c = 0 && 1 / 0; proc p() { out c; }", "push 0, out")
	refused(t, "const c = 0 && x;", 16, api.ErrUnknown)
}

// 19.1: the error of the text, where there is one.
func TestBuildOfNoSource(t *testing.T) {
	for _, text := range []string{
		"proc", "proc p(", "@", "const a = 08;", "const a = 1 / 0; proc p() { out x }", "a /* b",
		strings.Repeat(" ", api.MaxText) + "proc", strings.Repeat("x", api.MaxText+1), "const a = " + strings.Repeat("-", 201) + "1;",
	} {
		_, want := source.Parse(text)
		lib, err := compile.Build(text)
		if want == nil || !reflect.DeepEqual(err, want) || lib != nil {
			t.Errorf("Build(%.80q) is %v, %v, want %v", text, lib, err, want)
		}
	}
	if _, err := compile.Build(strings.Repeat(" ", api.MaxText+1)); err != error(api.ErrLong) {
		t.Errorf("is %v", err)
	}
}

// 19.1: else what Compile says of its tree.
func TestBuildIsCompile(t *testing.T) {
	for _, text := range []string{
		"", " // nothing\n", "const a = 1;", "proc p() { }", "const a = 2; proc p(b) { out a + b; } proc q() { stop; }",
		"\n\n  proc p() {\n out x; }", "const a = 1;\nconst a = 1;", "proc p() { repeat 256 { stop; } }", "\tproc p() { repeat 256 { stop; } stop; }",
		strings.Repeat("\n", api.MaxText-len("proc p() { }")) + "proc p() { }",
	} {
		want, wrong := compile.Compile(parsed(t, text))
		lib, err := compile.Build(text)
		if !sameLibrary(lib, want) || !reflect.DeepEqual(err, wrong) {
			t.Errorf("Build(%.80q) is %v, %v, want %v, %v", text, lib, err, want, wrong)
		}
	}
	lib, err := compile.Build("\n\n  proc p() {\n out x; }")
	isWrong(t, "Build", lib, err, 4, 6, api.ErrUnknown)
}

// A source without procedures is a library without any.
func TestNoProcedures(t *testing.T) {
	for _, text := range []string{"", "const a = 1; const b = a + a;"} {
		if lib := built(t, text); len(lib) != 0 {
			t.Errorf("Build(%q) is %v", text, lib)
		}
	}
	if lib := compiled(t, api.Source{}); len(lib) != 0 {
		t.Errorf("is %v", lib)
	}
}
