package compile_test

import (
	"fmt"
	"strings"
	"testing"

	"prelude/api"
	"prelude/compile"
	"prelude/source"
)

// list is n names that begin alike.
func list(ahead string, n int) string {
	var out []string
	for i := range n {
		out = append(out, fmt.Sprint(ahead, i))
	}
	return strings.Join(out, ", ")
}

// 19.2: a tree that can't be written, whatever else is wrong with it.
func TestTree(t *testing.T) {
	unknown := out(named("x"))
	for _, s := range []api.Source{
		{Procs: []api.Define{{Name: "if"}}},
		{Procs: []api.Define{{Name: ""}}},
		{Procs: []api.Define{{Name: "p", Args: []api.Name{{Text: "1"}}}}},
		{Consts: []api.Const{{Name: "a"}}},
		{Consts: []api.Const{{Name: "a", X: named("b")}, {Name: "c", X: api.Expr{Kind: 11}}}},
		procedure(unknown, api.Stmt{}),
		procedure(unknown, out(two(api.INeg, num(1), num(2)))),
		procedure(unknown, out(two(api.IAdd, num(1), num(2)).Args[0]), api.Stmt{Kind: api.SOut, X: num(1), Name: "x"}),
		procedure(unknown, out(api.Expr{Kind: api.EAnd, Args: []api.Expr{num(1)}})),
		procedure(api.Stmt{Kind: api.SRepeat, X: num(-1), Body: []api.Stmt{{Kind: 99}}}),
	} {
		if lib, err := compile.Compile(s); err != error(api.ErrTree) || lib != nil {
			t.Errorf("%v is %v, %v", s, lib, err)
		}
	}
}

// 19.2: what is too long or too deep for a text is compiled as any other tree.
func TestTreeBeyondTexts(t *testing.T) {
	deep := num(5)
	for range 254 {
		deep = neg(deep)
	}
	s := procedure(out(deep))
	if _, e := source.Print(s); e != api.ErrLimit {
		t.Fatalf("Print is %d", e)
	}
	if p := compiled(t, s)[0].Program; len(p.Code) != 256 {
		t.Errorf("%d instructions", len(p.Code))
	}
	name := strings.Repeat("n", api.MaxText)
	s = api.Source{Consts: []api.Const{{Name: name, X: num(3)}}, Procs: procedure(out(named(name))).Procs}
	if _, e := source.Print(s); e != api.ErrLong {
		t.Fatalf("Print is %d", e)
	}
	if got := spelled(compiled(t, s)[0].Program); got != "push 3, out" {
		t.Errorf("is %s", got)
	}
	s.Procs[0].Body[0].X.Name += "n"
	refusedTree(t, s, api.Spot{}, api.ErrUnknown)
}

// 19.2: a constant.
func TestWrongConstants(t *testing.T) {
	refusedAt(t, "const a = 1; const b = 2; const ^a = 3;", api.ErrAgain)
	refusedAt(t, "const a = 1; const ^a = x;", api.ErrAgain)
	refusedAt(t, "const a = ^a;", api.ErrUnknown)
	refusedAt(t, "const a = ^b; const b = 1;", api.ErrUnknown)
	refusedAt(t, "const a = 1; const b = a + ^c + d;", api.ErrUnknown)
	refusedAt(t, "const a = ^get(r);", api.ErrFold)
	refusedAt(t, "const a = ^has(r);", api.ErrFold)
	refusedAt(t, "const a = ^get[x];", api.ErrFold)
	refusedAt(t, "const a = 1 + ^get[1 / 0];", api.ErrFold)
	// Constants are looked over ahead of procedures, wherever they stand.
	refusedAt(t, "proc p() { out x; } const a = ^b;", api.ErrUnknown)
	writes(t, "proc p() { out a; } const a = 3;", "push 3, out")
}

// 19.2: a constant is looked over as a whole, and then reckoned.
func TestLookedOverThenReckoned(t *testing.T) {
	refusedAt(t, "const a = 1 / 0 + ^b;", api.ErrUnknown)
	refusedAt(t, "const a = 1 ^/ 0 + 1 / 0;", api.ErrFold)
	refusedAt(t, "const a = 1 / (2 ^/ 0);", api.ErrFold)
	refusedAt(t, "const a = 1 ^% 0;", api.ErrFold)
	refusedAt(t, "const a = 1 ^<< -1;", api.ErrFold)
	refusedAt(t, "const a = 1 ^>> -1;", api.ErrFold)
	refusedAt(t, "const a = 1 && 2 ^/ 0;", api.ErrFold)
	refusedAt(t, "const a = 0 || 2 ^/ 0;", api.ErrFold)
	refusedAt(t, "const a = 1 ? 2 ^/ 0 : 3;", api.ErrFold)
	refusedAt(t, "const a = 0 ? 2 : 3 ^/ 0;", api.ErrFold)
	refusedAt(t, "const a = 0 && 1 ? 2 : ^x;", api.ErrUnknown)
	refusedAt(t, "const a = 1 || ^x;", api.ErrUnknown)
	refusedAt(t, "const a = 1 ? 2 : ^x;", api.ErrUnknown)
	refusedAt(t, "const a = 0; const b = -(4 ^/ a);", api.ErrFold)
	refusedAt(t, "const a = max(1, 5 ^% 0);", api.ErrFold)
}

// 19.2: what constants are reckoned to.
func TestConstants(t *testing.T) {
	for expr, want := range map[string]string{
		"7": "7", "-7": "-7", "!7": "0", "!0": "1", "1 + 2 * 3": "7", "7 - 9": "-2", "-7 / 2": "-3", "-7 % 2": "-1", "6 & 3": "2", "6 | 3": "7", "6 ^ 3": "5",
		"1 << 62": "4611686018427387904", "1 << 63": "-9223372036854775808", "1 << 64": "0", "-8 >> 99": "-1", "1 == 1": "1", "1 != 1": "0", "1 < 2": "1", "2 <= 1": "0", "2 > 1": "1", "1 >= 2": "0",
		"min(3, -3)": "-3", "max(3, -3)": "3", "9223372036854775807 + 1": "-9223372036854775808", "0x8000000000000000 / -1": "-9223372036854775808", "0x8000000000000000 % -1": "0",
		"-0x8000000000000000": "-9223372036854775808", "4294967296 * 4294967296": "0",
		"2 && 3": "1", "2 && 0": "0", "0 && 3": "0", "2 || 3": "1", "0 || 3": "1", "0 || 0": "0", "3 ? 4 : 5": "4", "0 ? 4 : 5": "5",
		"0 && 1 / 0": "0", "1 || 1 / 0": "1", "1 ? 2 : 1 / 0": "2", "0 ? 1 / 0 : 2": "2", "0 && 1 << -1 || 4": "1",
	} {
		writes(t, "const c = "+expr+"; const d = c; proc p() { out d; }", "push "+want+", out")
	}
}

// 19.2: a procedure's name, and how many there may be.
func TestWrongProcedures(t *testing.T) {
	name := strings.Repeat("n", api.MaxName)
	if lib := built(t, "proc "+name+"() { }"); lib[0].Name != name {
		t.Errorf("is %v", lib)
	}
	refusedAt(t, "proc ^"+name+"n() { }", api.ErrLimit)
	refusedAt(t, "proc ^"+name+"n(a, a) { out x; }", api.ErrLimit)
	refusedAt(t, "proc p() { } proc q() { } proc ^p(a, a) { out x; }", api.ErrAgain)
	refusedAt(t, "proc p() { out ^x; } proc p() { }", api.ErrUnknown)
	many := ""
	for i := range api.MaxProcs {
		many += fmt.Sprint("proc p", i, "() { } ")
	}
	if lib := built(t, many); len(lib) != api.MaxProcs || lib[63].Name != "p63" {
		t.Errorf("%d procedures", len(lib))
	}
	refusedAt(t, many+"proc ^q() { out x; }", api.ErrLimit)
	refusedAt(t, many+"proc ^p0() { }", api.ErrLimit)
}

// 19.2: a procedure's lists of names.
func TestWrongLists(t *testing.T) {
	refusedAt(t, "proc p(a, b, ^a) { }", api.ErrAgain)
	refusedAt(t, "proc p() reads a, b, ^b { }", api.ErrAgain)
	refusedAt(t, "proc p() writes a, ^a { }", api.ErrAgain)
	refusedAt(t, "const c = 1; proc p(a, ^c, a) { }", api.ErrAgain)
	writes(t, "const c = 1; proc p() reads c writes c { put c = get(c) + c; }", "get 0, push 1, add, put 0")
	// The lists are gone through in their order, ahead of the body.
	refusedAt(t, "proc p(a, ^a) reads r, r writes w, w { out x; }", api.ErrAgain)
	refusedAt(t, "proc p(a) reads r, ^r writes w, w { out x; }", api.ErrAgain)
	refusedAt(t, "proc p(a) reads r writes w, ^w { out x; }", api.ErrAgain)
	refusedAt(t, "proc p(a) reads r writes w { out ^x; }", api.ErrUnknown)
	// As many as may be, and one more.
	p := built(t, "proc p("+list("a", 16)+") reads "+list("r", 16)+" writes "+list("w", 16)+" { out a15 + get(r15); put w15 = 1; }")[0].Program
	if p.Args != 16 || p.Reads != 16 || p.Writes != 16 || spelled(p) != "arg 15, get 15, add, out, push 1, put 15" {
		t.Errorf("is %v", p)
	}
	refusedAt(t, "proc p("+list("a", 16)+", ^b) { }", api.ErrLimit)
	refusedAt(t, "proc p("+list("a", 16)+", ^a0, c) { }", api.ErrLimit)
	refusedAt(t, "const c = 1; proc p("+list("a", 16)+", ^c) { }", api.ErrLimit)
	refusedAt(t, "proc p() reads "+list("a", 16)+", ^b { }", api.ErrLimit)
	refusedAt(t, "proc p() writes "+list("a", 16)+", ^a0 { }", api.ErrLimit)
	refusedAt(t, "proc p() reads "+list("a", 16)+", ^b writes c, c { }", api.ErrLimit)
	refusedAt(t, "proc p(a, ^a, "+list("b", 20)+") { }", api.ErrAgain)
}

// inBody asks that a statement is refused at its mark: in a body of its own, in blocks, and behind other statements. What it may use is a, b (args), k (a constant), l (a local), r (a read), w (a write).
func inBody(t *testing.T, marked string, want api.Errno) {
	t.Helper()
	const ahead = "const k = 3; proc p(a, b) reads r writes w { let l = a; "
	for _, around := range [][2]string{
		{"", " }"},
		{"out l; put w = 1; ", " out x; }"},
		{"if a { ", " } }"},
		{"if a { let u = 1; } else { ", " out x; } }"},
		{"if a { } else if b { stop; } else { stop; ", " } }"},
		{"repeat 0 { ", " } }"},
		{"repeat 300 - 44 { repeat k { ", " } } }"},
	} {
		refusedAt(t, ahead+around[0]+marked+around[1], want)
	}
}

// 19.2: the statements that name something.
func TestWrongStatements(t *testing.T) {
	inBody(t, "let u = ^x;", api.ErrUnknown)
	inBody(t, "let u = ^u;", api.ErrUnknown)
	inBody(t, "let a = ^x;", api.ErrUnknown)
	inBody(t, "^let a = 1;", api.ErrAgain)
	inBody(t, "^let k = 1;", api.ErrAgain)
	inBody(t, "^let l = 1;", api.ErrAgain)
	inBody(t, "let u = 1; ^let u = u;", api.ErrAgain)
	inBody(t, "^x = y;", api.ErrUnknown)
	inBody(t, "^r = 1;", api.ErrUnknown)
	inBody(t, "^w = 1;", api.ErrUnknown)
	inBody(t, "^p = 1;", api.ErrUnknown)
	inBody(t, "^a = y;", api.ErrSort)
	inBody(t, "^k = 1;", api.ErrSort)
	inBody(t, "l = ^y;", api.ErrUnknown)
	inBody(t, "^put r = y;", api.ErrUnknown)
	inBody(t, "^put l = 1;", api.ErrUnknown)
	inBody(t, "put w = ^y;", api.ErrUnknown)
	inBody(t, "^del r;", api.ErrUnknown)
	inBody(t, "^del a;", api.ErrUnknown)
	inBody(t, "put [^x] = y;", api.ErrUnknown)
	inBody(t, "put [1] = ^y;", api.ErrUnknown)
	inBody(t, "out ^x;", api.ErrUnknown)
	inBody(t, "abort ^x;", api.ErrUnknown)
	inBody(t, "if ^x { out y; } else { out z; }", api.ErrUnknown)
	inBody(t, "if 1 { out ^y; } else { out z; }", api.ErrUnknown)
	inBody(t, "if 1 { } else { out ^z; }", api.ErrUnknown)
	inBody(t, "stop; out ^x;", api.ErrUnknown)
}

// 19.2: names in expressions.
func TestWrongExpressions(t *testing.T) {
	for _, expr := range []string{
		"^x", "^r", "^w", "^p", "^get(x)", "^get(w)", "^get(a)", "^has(x)", "^has(l)", "get[^x]", "-^x", "!^x", "^x + y", "a + ^y", "min(^x, y)", "max(1, ^y)",
		"^x && y", "a && ^y", "0 && ^y", "^x || y", "1 || ^y", "^x ? y : z", "1 ? ^y : z", "1 ? 2 : ^z",
		"get[^get(w)] + x", "1 / 0 + ^x", "(a + (b - ^x)) * y", "^has(q) + get(x)", "get[get(r)] + ^has(q)",
	} {
		inBody(t, "out "+expr+";", api.ErrUnknown)
		inBody(t, "let u = 1; if u { put [l] = 1 + "+expr+"; }", api.ErrUnknown)
	}
}

// 19.2: how often something is repeated.
func TestWrongRepeats(t *testing.T) {
	inBody(t, "repeat ^a { }", api.ErrSort)
	inBody(t, "repeat ^l { }", api.ErrSort)
	inBody(t, "repeat k + ^l + x { }", api.ErrSort)
	inBody(t, "repeat ^x { out y; }", api.ErrUnknown)
	inBody(t, "repeat ^x + l { }", api.ErrUnknown)
	inBody(t, "repeat ^r { }", api.ErrUnknown)
	inBody(t, "repeat ^get(r) { }", api.ErrFold)
	inBody(t, "repeat ^get(x) { }", api.ErrFold)
	inBody(t, "repeat ^has(x) + l { }", api.ErrFold)
	inBody(t, "repeat ^get[x] { }", api.ErrFold)
	inBody(t, "repeat 0 && ^get[x] { }", api.ErrFold)
	inBody(t, "repeat 0 && ^l { }", api.ErrSort)
	inBody(t, "repeat 1 ^/ 0 { out x; }", api.ErrFold)
	inBody(t, "repeat ^257 { out x; }", api.ErrLimit)
	inBody(t, "repeat ^-1 { out x; }", api.ErrLimit)
	inBody(t, "repeat 256 ^+ 1 { }", api.ErrLimit)
	inBody(t, "repeat k ^- 4 { }", api.ErrLimit)
	inBody(t, "repeat ^0x8000000000000000 { }", api.ErrLimit)
	inBody(t, "repeat ^9223372036854775807 { }", api.ErrLimit)
	inBody(t, "repeat 1 ^? 257 : 0 { }", api.ErrLimit)
	inBody(t, "repeat 256 { out ^x; }", api.ErrUnknown)
	inBody(t, "repeat 0 { out ^x; }", api.ErrUnknown)
}

// Names: where a local is visible.
func TestVisible(t *testing.T) {
	refusedAt(t, "proc p() { if 1 { let u = 1; } out ^u; }", api.ErrUnknown)
	refusedAt(t, "proc p() { if 1 { let u = 1; } else { out ^u; } }", api.ErrUnknown)
	refusedAt(t, "proc p() { if 1 { let u = 1; } else { ^u = 1; } }", api.ErrUnknown)
	refusedAt(t, "proc p() { repeat 2 { let u = 1; } out ^u; }", api.ErrUnknown)
	refusedAt(t, "proc p() { repeat 2 { out ^u; let u = 1; } }", api.ErrUnknown)
	refusedAt(t, "proc p() { out ^u; let u = 1; }", api.ErrUnknown)
	refusedAt(t, "proc p() { let u = 1; } proc q() { out ^u; }", api.ErrUnknown)
	refusedAt(t, "proc p(a) reads r { } proc q() { out ^a; }", api.ErrUnknown)
	refusedAt(t, "proc p() reads r { } proc q() { out ^get(r); }", api.ErrUnknown)
	refusedAt(t, "proc p() writes w { } proc q() { ^del w; }", api.ErrUnknown)
	refusedAt(t, "proc p() { let u = 1; if 1 { ^let u = 2; } }", api.ErrAgain)
	writes(t, "proc p() { let u = 1; if u { u = 2; if u { u = 3; } } }", "push 1, save 0, load 0, zero 10, push 2, save 0, load 0, zero 10, push 3, save 0")
	writes(t, "proc p() { repeat 2 { let u = 1; repeat 2 { let v = u; } } }", strings.TrimSuffix(strings.Repeat("push 1, save 0, load 0, save 1, load 0, save 1, ", 2), ", "))
}

// lets is n lets of locals that begin alike.
func lets(ahead string, n int) string {
	out := ""
	for i := range n {
		out += fmt.Sprint("let ", ahead, i, " = ", i, "; ")
	}
	return out
}

// 19.2: how many locals may be visible.
func TestLocals(t *testing.T) {
	if p := built(t, "proc p() { "+lets("u", 16)+"out u15; }")[0].Program; p.Locals != 16 || p.Code[32] != (api.Instr{Op: api.ILoad, A: 15}) {
		t.Errorf("is %v", p)
	}
	refusedAt(t, "proc p() { "+lets("u", 16)+"^let v = 1; }", api.ErrLimit)
	refusedAt(t, "proc p() { "+lets("u", 16)+"^let u0 = 1; }", api.ErrAgain)
	refusedAt(t, "proc p() { "+lets("u", 16)+"let v = ^v; }", api.ErrUnknown)
	refusedAt(t, "proc p() { "+lets("u", 9)+"if 1 { "+lets("v", 7)+"^let w = 1; } }", api.ErrLimit)
	refusedAt(t, "proc p() { "+lets("u", 9)+"repeat 0 { "+lets("v", 7)+"^let w = 1; } }", api.ErrLimit)
	if p := built(t, "proc p() { "+lets("u", 9)+"if 1 { "+lets("v", 7)+"} else { "+lets("w", 5)+"} "+lets("x", 6)+"}")[0].Program; p.Locals != 16 {
		t.Errorf("%d locals", p.Locals)
	}
	// Args are none.
	if p := built(t, "proc p("+list("a", 16)+") { "+lets("u", 16)+"}")[0].Program; p.Locals != 16 {
		t.Errorf("%d locals", p.Locals)
	}
}

// 19.2: how long a program may get.
func TestLongPrograms(t *testing.T) {
	for body, n := range map[string]int{
		"repeat 256 { stop; }":                                     256,
		"repeat 128 { out 1; }":                                    256,
		"repeat 16 { repeat 16 { stop; } }":                        256,
		"repeat 0 { repeat 256 { out 1; } }":                       0,
		"repeat 0 { repeat 200 { out 1; } } repeat 128 { out 1; }": 256,
		"repeat 255 { stop; } repeat 0 { out 1; out 2; } stop;":    256,
		"if 1 { repeat 253 { stop; } } stop;":                      256,
		"if 1 { repeat 253 { stop; } } else { repeat 0 { } }":      256,
	} {
		if p := built(t, "proc p() { "+body+" }")[0].Program; len(p.Code) != n {
			t.Errorf("%q has %d instructions, want %d", body, len(p.Code), n)
		}
		if n == 256 {
			refusedAt(t, "proc ^p() { "+body+" stop; }", api.ErrLarge)
			refusedAt(t, "proc ^p() { stop; "+body+" }", api.ErrLarge)
			refusedAt(t, "proc ^p() { stop; repeat 1 { "+body+" } }", api.ErrLarge)
		}
	}
	refusedAt(t, "proc ^p() { repeat 256 { repeat 256 { repeat 256 { repeat 256 { out 1; } } } } }", api.ErrLarge)
	refusedAt(t, "proc ^p() { if 1 { repeat 254 { stop; } } else { stop; } }", api.ErrLarge)
	refusedAt(t, "proc ^p() { out "+strings.Repeat("1 + ", 200)+"1; }", api.ErrLarge)
}

// 19.2: how high the stack may get, where it is reached.
func TestHighStacks(t *testing.T) {
	high := func(n int) string { return strings.Repeat("1 + (", n-1) + "1" + strings.Repeat(")", n-1) }
	for _, ahead := range []string{"", "let u = 1; ", "if 1 { stop; } ", "if 1 { } else { abort 1; } ", "repeat 0 { stop; } "} {
		built(t, "proc p() { "+ahead+"out "+high(32)+"; }")
		refusedAt(t, "proc ^p() { "+ahead+"out "+high(33)+"; }", api.ErrLarge)
		refusedAt(t, "proc ^p() { "+ahead+"out max(1, "+high(32)+"); }", api.ErrLarge)
		refusedAt(t, "proc ^p() writes w { "+ahead+"put [1] = "+high(32)+"; }", api.ErrLarge)
	}
	// What is not reached may be as high as it likes.
	built(t, "proc p() { stop; out "+high(33)+"; }")
	built(t, "proc p() { abort 1; if 1 { out "+high(60)+"; } }")
	built(t, "proc p() { if 1 { stop; } else { abort 2; } out "+high(33)+"; }")
	built(t, "proc p() { repeat 0 { out "+high(33)+"; } }")
}

// 19.2: what is too large is told behind all else, and for the first procedure that is.
func TestLargeIsToldLast(t *testing.T) {
	const large = "{ repeat 200 { out 1; } }"
	refusedAt(t, "proc p() "+large+" proc q() { out ^x; }", api.ErrUnknown)
	refusedAt(t, "proc p() "+large+" proc ^p() { }", api.ErrAgain)
	refusedAt(t, "proc p() { repeat 200 { out 1; } out ^x; }", api.ErrUnknown)
	refusedAt(t, "proc p() { repeat 200 { out 1; if 1 { let u = 1; ^let u = 1; } } }", api.ErrAgain)
	refusedAt(t, "proc p() { repeat 256 { stop; } stop; repeat 200 { repeat ^257 { } } }", api.ErrLimit)
	refusedAt(t, "proc p() { } proc ^q() "+large+" proc r() "+large, api.ErrLarge)
	refusedAt(t, "proc ^p() { out "+strings.Repeat("1 + (", 32)+"1"+strings.Repeat(")", 32)+"; } proc q() "+large, api.ErrLarge)
}

// 19.2: places are told as they stand in the tree, whatever they are.
func TestPlacesOfTree(t *testing.T) {
	at := func(line, col int) api.Spot { return api.Spot{Line: line, Col: col} }
	refusedTree(t, procedure(out(api.Expr{Kind: api.EName, Name: "x", At: at(-4, 99)})), at(-4, 99), api.ErrUnknown)
	refusedTree(t, procedure(api.Stmt{Kind: api.SDel, Name: "x"}), at(0, 0), api.ErrUnknown)
	refusedTree(t, procedure(api.Stmt{Kind: api.SRepeat, X: num(1), Body: []api.Stmt{{Kind: api.SSet, Name: "x", X: num(1), At: at(1<<40, 3)}}}), at(1<<40, 3), api.ErrUnknown)
	refusedTree(t, api.Source{Consts: []api.Const{{Name: "a", X: num(1)}, {Name: "a", X: num(1), At: at(5, 6)}}}, at(5, 6), api.ErrAgain)
	refusedTree(t, api.Source{Procs: []api.Define{{Name: "p", Args: []api.Name{{Text: "a"}, {Text: "a", At: at(3, 3)}}, At: at(2, 2)}}}, at(3, 3), api.ErrAgain)
	long := procedure(api.Stmt{Kind: api.SRepeat, X: num(200), Body: []api.Stmt{out(num(1))}})
	refusedTree(t, long, at(7, 8), api.ErrLarge)
}
