package compile_test

import (
	"fmt"
	"strings"
	"testing"

	"prelude/api"
	"prelude/lang"
)

// word is an instruction as the chapter writes it.
func word(in api.Instr) string {
	if lang.Wants(in.Op) {
		return fmt.Sprint(lang.Spell(in.Op), " ", in.A)
	}
	return lang.Spell(in.Op)
}

// exprWrites asks that an expression has this code, in a procedure of args a, b, reads r, s and a local l of the slot 0.
func exprWrites(t *testing.T, expr, want string) {
	t.Helper()
	const ahead = "push 9, save 0, "
	got := codeOf(t, "const c = 7; const d = -8; proc p(a, b) reads r, s { let l = 9; out "+expr+"; }")
	if want = ahead + want + ", out"; got != want {
		t.Errorf("%q is\n%s, want\n%s", expr, got, want)
	}
}

// 19.3: what stands by itself.
func TestCodeOfLeaves(t *testing.T) {
	exprWrites(t, "5", "push 5")
	exprWrites(t, "0xffffffffffffffff", "push -1")
	exprWrites(t, "9223372036854775807", "push 9223372036854775807")
	exprWrites(t, "0x8000000000000000", "push -9223372036854775808")
	exprWrites(t, "l", "load 0")
	exprWrites(t, "a", "arg 0")
	exprWrites(t, "b", "arg 1")
	exprWrites(t, "c", "push 7")
	exprWrites(t, "d", "push -8")
	exprWrites(t, "get(r)", "get 0")
	exprWrites(t, "get(s)", "get 1")
	exprWrites(t, "has(r)", "has 0")
	exprWrites(t, "has(s)", "has 1")
}

// 19.3: what an instruction makes of its parts. Nothing is reckoned ahead.
func TestCodeOfOperations(t *testing.T) {
	exprWrites(t, "get[a]", "arg 0, getx")
	exprWrites(t, "get[get[1] + 2]", "push 1, getx, push 2, add, getx")
	exprWrites(t, "-1", "push 1, neg")
	exprWrites(t, "!a", "arg 0, not")
	exprWrites(t, "- - !a", "arg 0, not, neg, neg")
	for sign, name := range map[string]string{
		"+": "add", "-": "sub", "*": "mul", "/": "div", "%": "mod", "&": "and", "|": "or", "^": "xor", "<<": "shl", ">>": "shr",
		"==": "eq", "!=": "ne", "<": "lt", "<=": "le", ">": "gt", ">=": "ge",
	} {
		exprWrites(t, "1 "+sign+" a", "push 1, arg 0, "+name)
		exprWrites(t, "a "+sign+" 1", "arg 0, push 1, "+name)
	}
	exprWrites(t, "min(1, a)", "push 1, arg 0, min")
	exprWrites(t, "max(a, 1)", "arg 0, push 1, max")
	exprWrites(t, "1 - 2 - 3", "push 1, push 2, sub, push 3, sub")
	exprWrites(t, "1 - (2 - 3)", "push 1, push 2, push 3, sub, sub")
	exprWrites(t, "1 / 0", "push 1, push 0, div")
}

// 19.3: what looks at its parts only where it must.
func TestCodeOfChoices(t *testing.T) {
	exprWrites(t, "a && b", "arg 0, zero 8, arg 1, zero 8, push 1, jump 9, push 0")
	exprWrites(t, "a || b", "arg 0, zero 6, push 1, jump 11, arg 1, zero 10, push 1, jump 11, push 0")
	exprWrites(t, "a ? b : l", "arg 0, zero 6, arg 1, jump 7, load 0")
	exprWrites(t, "0 && 1", "push 0, zero 8, push 1, zero 8, push 1, jump 9, push 0")
	exprWrites(t, "a && b && l",
		"arg 0, zero 8, arg 1, zero 8, push 1, jump 9, push 0, zero 14, load 0, zero 14, push 1, jump 15, push 0")
	exprWrites(t, "a && (b || l)",
		"arg 0, zero 16, arg 1, zero 8, push 1, jump 13, load 0, zero 12, push 1, jump 13, push 0, zero 16, push 1, jump 17, push 0")
	exprWrites(t, "a || b && l",
		"arg 0, zero 6, push 1, jump 17, arg 1, zero 12, load 0, zero 12, push 1, jump 13, push 0, zero 16, push 1, jump 17, push 0")
	exprWrites(t, "a ? b ? 1 : 2 : l ? 3 : 4",
		"arg 0, zero 10, arg 1, zero 8, push 1, jump 9, push 2, jump 15, load 0, zero 14, push 3, jump 15, push 4")
	exprWrites(t, "(a ? b : l) + 1", "arg 0, zero 6, arg 1, jump 7, load 0, push 1, add")
}

// 19.3: each statement.
func TestCodeOfStatements(t *testing.T) {
	for body, want := range map[string]string{
		"":                               "",
		"let x = 1;":                     "push 1, save 0",
		"let x = a; let y = x; x = y;":   "arg 0, save 0, load 0, save 1, load 1, save 0",
		"put w = a; put v = 2;":          "arg 0, put 0, push 2, put 1",
		"put [a] = b;":                   "arg 0, arg 1, putx",
		"put [a + 1] = b * 2;":           "arg 0, push 1, add, arg 1, push 2, mul, putx",
		"del w; del v;":                  "del 0, del 1",
		"out a;":                         "arg 0, out",
		"abort a - 1;":                   "arg 0, push 1, sub, abort",
		"stop;":                          "stop",
		"stop; stop; abort 1; out 2;":    "stop, stop, push 1, abort, push 2, out",
		"if a { out 1; }":                "arg 0, zero 4, push 1, out",
		"if a { out 1; } stop;":          "arg 0, zero 4, push 1, out, stop",
		"if a { }":                       "arg 0, zero 2",
		"if a { } else { }":              "arg 0, zero 2",
		"if a { } else { stop; }":        "arg 0, zero 3, jump 4, stop",
		"if a { del w; } else { stop; }": "arg 0, zero 4, del 0, jump 5, stop",
		"if a { del w; } else if b { stop; } del v;":             "arg 0, zero 4, del 0, jump 7, arg 1, zero 7, stop, del 1",
		"if a { del w; } else if b { stop; } else { del v; }":    "arg 0, zero 4, del 0, jump 9, arg 1, zero 8, stop, jump 9, del 1",
		"if a { if b { stop; } }":                                "arg 0, zero 5, arg 1, zero 5, stop",
		"if a { if b { stop; } else { del w; } } else { stop; }": "arg 0, zero 8, arg 1, zero 6, stop, jump 7, del 0, jump 9, stop",
		"if a { stop; } else { repeat 0 { stop; } }":             "arg 0, zero 4, stop, jump 4",
		"if a { } else { repeat 9 { } }":                         "arg 0, zero 3, jump 3",
		"if 0 { out 1; } else { out 2; }":                        "push 0, zero 5, push 1, out, jump 7, push 2, out",
	} {
		writes(t, "proc p(a, b) writes w, v { "+body+" }", want)
	}
}

// 19.3: a repeat's body stands there as often as it is done, its jumps each time by its own places.
func TestCodeOfRepeats(t *testing.T) {
	for body, want := range map[string]string{
		"repeat 0 { out 1; }":                       "",
		"repeat 1 { stop; }":                        "stop",
		"repeat 3 { stop; }":                        "stop, stop, stop",
		"repeat 256 { }":                            "",
		"repeat 3 { repeat 0 { out a; } }":          "",
		"repeat 0 { repeat 256 { out a; } }":        "",
		"repeat 2 { stop; repeat 2 { del w; } }":    "stop, del 0, del 0, stop, del 0, del 0",
		"stop; repeat 2 { if a { stop; } }":         "stop, arg 0, zero 4, stop, arg 0, zero 7, stop",
		"repeat 2 { out a ? 1 : 2; }":               "arg 0, zero 4, push 1, jump 5, push 2, out, arg 0, zero 10, push 1, jump 11, push 2, out",
		"repeat 2 { repeat 2 { if a { } } del w; }": "arg 0, zero 2, arg 0, zero 4, del 0, arg 0, zero 7, arg 0, zero 9, del 0",
		"repeat 2 { if a { repeat 2 { if a { stop; } } } else { del w; } }": "arg 0, zero 9, arg 0, zero 5, stop, arg 0, zero 8, stop, jump 10, del 0, " +
			"arg 0, zero 19, arg 0, zero 15, stop, arg 0, zero 18, stop, jump 20, del 0",
		"if a { repeat 2 { stop; } } else { repeat 0 { stop; } }": "arg 0, zero 5, stop, stop, jump 5",
		"repeat 2 { let x = 1; } let y = 2;":                      "push 1, save 0, push 1, save 0, push 2, save 0",
	} {
		writes(t, "proc p(a) writes w { "+body+" }", want)
	}
	// How often may be any constant expression.
	for expr, times := range map[string]int{"2 * k": 6, "-k + 4": 1, "k - 3": 0, "k > 2 ? 4 : 5": 4, "k && 9": 1, "min(k, 2)": 2, "1 << 8": 256, "!k": 0} {
		writes(t, "const k = 3; proc p() { repeat "+expr+" { stop; } }", strings.TrimSuffix(strings.Repeat("stop, ", times), ", "))
	}
}

// 19.2: a program's numbers.
func TestNumbersOfProgram(t *testing.T) {
	lib := built(t, "proc p(a, b) reads r writes u, v, w { out a; } proc q() { let x = 1; let y = 2; } proc s() reads a, b { }")
	for i, want := range []api.Proc{
		{Name: "p", Program: api.Program{Args: 2, Reads: 1, Writes: 3}},
		{Name: "q", Program: api.Program{Locals: 2}},
		{Name: "s", Program: api.Program{Reads: 2}},
	} {
		got := lib[i]
		got.Program.Code = nil
		if fmt.Sprint(got) != fmt.Sprint(want) {
			t.Errorf("is %v, want %v", got, want)
		}
	}
	if len(lib) != 3 {
		t.Errorf("%d procedures", len(lib))
	}
}

// Slots: a local has the number of those that are visible at its let; those of a block are free behind it.
func TestSlots(t *testing.T) {
	for body, want := range map[string]struct {
		code   string
		locals int
	}{
		"":                        {"", 0},
		"repeat 0 { let a = 1; }": {"", 1},
		"repeat 0 { let a = 1; let b = 2; } let c = 3;":                 {"push 3, save 0", 2},
		"if 1 { let a = 1; } else { let b = 2; }":                       {"push 1, zero 5, push 1, save 0, jump 7, push 2, save 0", 1},
		"if 1 { let a = 1; } else { let a = 2; }":                       {"push 1, zero 5, push 1, save 0, jump 7, push 2, save 0", 1},
		"if 1 { let a = 1; } let a = 2; out a;":                         {"push 1, zero 4, push 1, save 0, push 2, save 0, load 0, out", 1},
		"let a = 1; repeat 2 { let b = a; } let c = a; out c;":          {"push 1, save 0, load 0, save 1, load 0, save 1, load 0, save 1, load 1, out", 2},
		"if 1 { let a = 1; if a { let b = a; let c = b; } let d = a; }": {"push 1, zero 12, push 1, save 0, load 0, zero 10, load 0, save 1, load 1, save 2, load 0, save 1", 3},
		"stop; let a = 1;": {"stop, push 1, save 0", 1},
	} {
		p := built(t, "proc p() { "+body+" }")[0].Program
		if got := spelled(p); got != want.code || p.Locals != want.locals {
			t.Errorf("%q is\n%s, %d locals, want\n%s, %d", body, got, p.Locals, want.code, want.locals)
		}
	}
}

// Names: a read, a write and one of the others may have the same name.
func TestNamesBesideOneAnother(t *testing.T) {
	writes(t, "proc p(a) reads a writes a { put a = get(a) + has(a) + a; del a; }", "get 0, has 0, add, arg 0, add, put 0, del 0")
	writes(t, "proc p() reads a, b writes b, a { let a = get(b); put a = a; }", "get 1, save 0, load 0, put 1")
	writes(t, "const a = 5; proc p() reads a writes a { put a = get(a) + a; }", "get 0, push 5, add, put 0")
	writes(t, "const p = 5; proc p() { out p; }", "push 5, out")
	// What a name means in one procedure means nothing in another.
	lib := built(t, "proc p(a) reads r { let b = a; out get(r); } proc q(b, r) reads s { let a = b; out r; }")
	if got := spelled(lib[1].Program); got != "arg 0, save 0, arg 1, out" {
		t.Errorf("is %s", got)
	}
	// Names but a procedure's may have any length.
	long := strings.Repeat("n", 1000)
	writes(t, "const "+long+" = 3; proc p("+long+"1) reads "+long+" { let "+long+"2 = "+long+" + "+long+"1; out get("+long+"); }", "push 3, arg 0, add, save 0, get 0, out")
}
