package source_test

import (
	"strings"
	"testing"

	"prelude/api"
	"prelude/source"
)

// exprKinds is a good expression of each kind.
func exprKinds() []api.Expr {
	return []api.Expr{
		num(0), num(5), named("a"), {Kind: api.EGet, Name: "a"}, {Kind: api.EHas, Name: "a"}, of(api.EGetX, 0, num(1)), neg(num(1)), not(num(1)),
		two(api.IAdd, num(1), num(2)), two(api.IMin, num(1), num(2)), two(api.ILt, num(1), num(2)),
		of(api.EAnd, 0, num(1), num(2)), of(api.EOr, 0, num(1), num(2)), of(api.ECond, 0, num(1), num(2), num(3)),
	}
}

// stmtKinds is a good statement of each kind.
func stmtKinds() []api.Stmt {
	stop := []api.Stmt{{Kind: api.SStop}}
	return []api.Stmt{
		{Kind: api.SLet, Name: "a", X: num(1)}, {Kind: api.SSet, Name: "a", X: num(1)}, {Kind: api.SPut, Name: "a", X: num(1)},
		{Kind: api.SPutX, X: num(1), Y: num(2)}, {Kind: api.SDel, Name: "a"}, {Kind: api.SOut, X: num(1)}, {Kind: api.SAbort, X: num(1)}, {Kind: api.SStop},
		{Kind: api.SIf, X: num(1), Body: stop, Else: stop}, {Kind: api.SRepeat, X: num(1), Body: stop},
	}
}

// notNames is texts that are no names.
func notNames() []string {
	out := append(strings.Fields(words), "", " ", "_", "_a", "0", "1a", "a b", "a-b", "a.", " a", "a ", "a\n", "\u00e9", "a\u00e9", "\u212a", "a\xff", "\xff", "a\x00", "+", "a;", "//", "0x1")
	return out
}

// wrongExpr asks that an expression can't be written, wherever it stands.
func wrongExpr(t *testing.T, x api.Expr) {
	t.Helper()
	for _, s := range []api.Source{
		constant(x),
		constant(neg(x)),
		constant(two(api.IAdd, num(1), x)),
		constant(two(api.IAdd, x, num(1))),
		constant(of(api.ECond, 0, num(1), num(2), of(api.EGetX, 0, x))),
		procedure(api.Stmt{Kind: api.SOut, X: x}),
		procedure(api.Stmt{Kind: api.SPutX, X: num(1), Y: x}),
		procedure(api.Stmt{Kind: api.SIf, X: x}),
		procedure(api.Stmt{Kind: api.SIf, X: num(1), Else: []api.Stmt{{Kind: api.SStop}, {Kind: api.SRepeat, X: num(1), Body: []api.Stmt{{Kind: api.SLet, Name: "a", X: x}}}}}),
	} {
		unprinted(t, s, api.ErrTree)
	}
}

// wrongStmt asks that a statement can't be written, wherever it stands.
func wrongStmt(t *testing.T, s api.Stmt) {
	t.Helper()
	stop := api.Stmt{Kind: api.SStop}
	unprinted(t, procedure(s), api.ErrTree)
	unprinted(t, procedure(stop, s, stop), api.ErrTree)
	unprinted(t, procedure(api.Stmt{Kind: api.SIf, X: num(1), Body: []api.Stmt{s}}), api.ErrTree)
	unprinted(t, procedure(api.Stmt{Kind: api.SIf, X: num(1), Else: []api.Stmt{s}}), api.ErrTree)
	unprinted(t, procedure(api.Stmt{Kind: api.SRepeat, X: num(1), Body: []api.Stmt{stop, s}}), api.ErrTree)
}

// 18.3: each kind can be written; kinds that are none can't.
func TestKinds(t *testing.T) {
	for _, x := range exprKinds() {
		printed(t, constant(x))
		for _, kind := range []int{-1 << 63, -1, 0, 11, 12, 1 << 40} {
			bad := x
			bad.Kind = kind
			wrongExpr(t, bad)
		}
	}
	for _, s := range stmtKinds() {
		printed(t, procedure(s))
		for _, kind := range []int{-1 << 63, -1, 0, 11, 12, 1 << 40} {
			bad := s
			bad.Kind = kind
			wrongStmt(t, bad)
		}
	}
	wrongExpr(t, api.Expr{})
	wrongStmt(t, api.Stmt{})
}

// 18.3: which instructions an expression may have.
func TestOps(t *testing.T) {
	binary := map[int]string{
		api.IAdd: "1 + 2", api.ISub: "1 - 2", api.IMul: "1 * 2", api.IDiv: "1 / 2", api.IMod: "1 % 2", api.IAnd: "1 & 2", api.IOr: "1 | 2", api.IXor: "1 ^ 2", api.IShl: "1 << 2", api.IShr: "1 >> 2",
		api.IEq: "1 == 2", api.INe: "1 != 2", api.ILt: "1 < 2", api.ILe: "1 <= 2", api.IGt: "1 > 2", api.IGe: "1 >= 2", api.IMin: "min(1, 2)", api.IMax: "max(1, 2)",
	}
	for op := -3; op < api.NumOps+3; op++ {
		if want, ok := binary[op]; ok {
			writes(t, constant(two(op, num(1), num(2))), "const a = "+want+";\n")
		} else {
			wrongExpr(t, two(op, num(1), num(2)))
		}
		if op != api.INeg && op != api.INot {
			wrongExpr(t, of(api.EUnary, op, num(1)))
		}
		for _, x := range exprKinds() {
			if x.Kind != api.EUnary && x.Kind != api.EBinary && op != 0 {
				x.Op = op
				wrongExpr(t, x)
			}
		}
	}
}

// 18.3: how many parts each kind has.
func TestArgs(t *testing.T) {
	for _, x := range exprKinds() {
		good := len(x.Args)
		for n := range 6 {
			x.Args = nil
			for range n {
				x.Args = append(x.Args, num(7))
			}
			if n == good {
				printed(t, constant(x))
			} else {
				wrongExpr(t, x)
			}
		}
		x.Args = []api.Expr{}
		if good == 0 {
			printed(t, constant(x))
		} else {
			wrongExpr(t, x)
		}
	}
}

// 18.3: a number and a name of an expression stand just where its kind asks for them.
func TestFieldsOfExpressions(t *testing.T) {
	for _, x := range exprKinds() {
		x.At = at(7, 7)
		printed(t, constant(x))
		bad := x
		bad.N = -1
		if x.Kind == api.ENum {
			printed(t, constant(bad))
		} else {
			wrongExpr(t, bad)
		}
		hasName := x.Kind == api.EName || x.Kind == api.EGet || x.Kind == api.EHas
		for _, name := range append(notNames(), "a", "if0", "a_9", strings.Repeat("n", 500)) {
			bad = x
			bad.Name = name
			if good := hasName && !contains(notNames(), name) || !hasName && name == ""; good {
				printed(t, constant(bad))
			} else {
				wrongExpr(t, bad)
			}
		}
	}
}

func contains(list []string, s string) bool {
	for _, x := range list {
		if x == s {
			return true
		}
	}
	return false
}

// 18.3: the fields of a statement stand just where its kind asks for them.
func TestFieldsOfStatements(t *testing.T) {
	stop := []api.Stmt{{Kind: api.SStop}}
	for _, s := range stmtKinds() {
		hasName := s.Kind == api.SLet || s.Kind == api.SSet || s.Kind == api.SPut || s.Kind == api.SDel
		for _, name := range append(notNames(), "b", "max_") {
			bad := s
			bad.Name = name
			if good := hasName && !contains(notNames(), name) || !hasName && name == ""; good {
				printed(t, procedure(bad))
			} else {
				wrongStmt(t, bad)
			}
		}
		hasX := s.Kind != api.SDel && s.Kind != api.SStop
		hasY := s.Kind == api.SPutX
		// What is zero but for its place is zero; anything else is not.
		for _, zero := range []api.Expr{{}, {At: at(3, 4)}, {Args: []api.Expr{}}} {
			bad := s
			if bad.X = zero; hasX {
				wrongStmt(t, bad)
			} else {
				printed(t, procedure(bad))
			}
			bad = s
			if bad.Y = zero; hasY {
				wrongStmt(t, bad)
			} else {
				printed(t, procedure(bad))
			}
		}
		for _, x := range []api.Expr{{Kind: api.ENum}, {Op: api.IAdd}, {N: 1}, {Name: "a"}, {Args: []api.Expr{{}}}, num(1), {Kind: -1}} {
			sound := x.Kind == api.ENum
			bad := s
			if bad.X = x; hasX && sound {
				printed(t, procedure(bad))
			} else {
				wrongStmt(t, bad)
			}
			bad = s
			if bad.Y = x; hasY && sound {
				printed(t, procedure(bad))
			} else {
				wrongStmt(t, bad)
			}
		}
		bad := s
		if bad.Body = stop; s.Kind == api.SIf || s.Kind == api.SRepeat {
			printed(t, procedure(bad))
		} else {
			wrongStmt(t, bad)
		}
		bad = s
		if bad.Else = stop; s.Kind == api.SIf {
			printed(t, procedure(bad))
		} else {
			wrongStmt(t, bad)
		}
		empty := s
		empty.At = at(9, 9)
		if len(s.Body) == 0 {
			empty.Body, empty.Else = []api.Stmt{}, []api.Stmt{}
		}
		printed(t, procedure(empty))
	}
}

// 18.3: the names of constants and procedures.
func TestNamesOfSources(t *testing.T) {
	for _, bad := range notNames() {
		for _, d := range []api.Define{
			{Name: bad}, {Name: "p", Args: names(bad)}, {Name: "p", Reads: names("a", bad)}, {Name: "p", Writes: names("a", bad, "b")},
		} {
			unprinted(t, api.Source{Procs: []api.Define{d}}, api.ErrTree)
			unprinted(t, api.Source{Procs: []api.Define{{Name: "q"}, d, {Name: "r"}}}, api.ErrTree)
		}
		unprinted(t, api.Source{Consts: []api.Const{{Name: bad, X: num(1)}}}, api.ErrTree)
		unprinted(t, api.Source{Consts: []api.Const{{Name: "a", X: num(1)}, {Name: bad, X: num(1)}}}, api.ErrTree)
	}
	unprinted(t, api.Source{Consts: []api.Const{{Name: "a"}}}, api.ErrTree)
}

// 18.3: places are not looked at.
func TestPlacesAreNotLookedAt(t *testing.T) {
	const text = "const a = 1 + b;\nproc p(a) reads r writes w {\n  put w = get(r);\n  put [1] = -a;\n}\n"
	s := parsed(t, text)
	odd := at(-1, 1<<40)
	s.Consts[0].At, s.Consts[0].X.At, s.Consts[0].X.Args[0].At = odd, odd, odd
	d := &s.Procs[0]
	d.At, d.Args[0].At, d.Reads[0].At, d.Writes[0].At, d.Body[0].At, d.Body[0].Y.At, d.Body[1].Y.At = odd, odd, odd, odd, odd, odd, odd
	if got, e := source.Print(s); got != text || e != api.OK {
		t.Errorf("is written %q, %d", got, e)
	}
}
