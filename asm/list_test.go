package asm_test

import (
	"math"
	"slices"
	"strconv"
	"strings"
	"testing"

	"prelude/api"
	"prelude/asm"
)

// bankText is the chapter's example library, as people write it.
const bankText = `proc move args 1 reads 2 writes 2 locals 0
  get 0
  arg 0
  lt
  zero go
  push 1
  abort
go:
  get 0
  arg 0
  sub
  put 0
  get 1
  arg 0
  add
  put 1
end
proc put args 1 reads 0 writes 1 locals 0
  arg 0
  put 0
end
`

// bank is the same library.
func bank() []api.Proc {
	return []api.Proc{
		{Name: "move", Program: api.Program{Args: 1, Reads: 2, Writes: 2, Code: code(
			api.IGet, 0, api.IArg, 0, api.ILt, 0, api.IZero, 6, api.IPush, 1, api.IAbort, 0,
			api.IGet, 0, api.IArg, 0, api.ISub, 0, api.IPut, 0, api.IGet, 1, api.IArg, 0, api.IAdd, 0, api.IPut, 1)}},
		{Name: "put", Program: api.Program{Args: 1, Writes: 1, Code: code(api.IArg, 0, api.IPut, 0)}},
	}
}

// code is instructions, of their Ops and As by turns.
func code(l ...int64) []api.Instr {
	var c []api.Instr
	for i := 0; i < len(l); i += 2 {
		c = append(c, api.Instr{Op: int(l[i]), A: l[i+1]})
	}
	return c
}

// alone is a library of the one procedure p, whose program has no args, reads, writes and locals.
func alone(code []api.Instr) []api.Proc {
	return []api.Proc{{Name: "p", Program: api.Program{Code: code}}}
}

// roomy is a library of the one procedure p, whose program has as many args, reads, writes and locals as may be.
func roomy(code []api.Instr) []api.Proc {
	return []api.Proc{{Name: "p", Program: api.Program{Args: 16, Reads: 16, Writes: 16, Locals: 16, Code: code}}}
}

// many is so many procedures of different names.
func many(n int) []api.Proc {
	var lib []api.Proc
	for i := range n {
		lib = append(lib, api.Proc{Name: "p" + strconv.Itoa(i)})
	}
	return lib
}

// sameLib tells whether two libraries are the same.
func sameLib(a, b []api.Proc) bool {
	return slices.EqualFunc(a, b, func(x, y api.Proc) bool {
		p, q := x.Program, y.Program
		return x.Name == y.Name && p.Args == q.Args && p.Reads == q.Reads && p.Writes == q.Writes && p.Locals == q.Locals && slices.Equal(p.Code, q.Code)
	})
}

// The first lines of alone and of roomy.
const (
	aloneLine = "proc p args 0 reads 0 writes 0 locals 0\n"
	roomyLine = "proc p args 16 reads 16 writes 16 locals 16\n"
)

// lists asks that List of a library is the text, and that Assemble of the text is the library.
func lists(t *testing.T, lib []api.Proc, want string) {
	t.Helper()
	if s, e := asm.List(lib); s != want || e != api.OK {
		t.Errorf("List of %v is %q, %d, want %q", lib, s, e, want)
	}
	if got, err := asm.Assemble(want); err != nil || !sameLib(got, lib) {
		t.Errorf("Assemble(%q) is %v, %v", want, got, err)
	}
}

// 4.1: the chapter's examples.
func TestListExamples(t *testing.T) {
	lists(t, bank(), strings.ReplaceAll(bankText, "go", "L6"))
	lists(t, nil, "")
	lists(t, []api.Proc{}, "")
	lists(t, alone(nil), aloneLine+"end\n")
	lists(t, alone(code(api.IJump, 1)), aloneLine+"  jump L1\nL1:\nend\n")
	full := many(64)
	for i := range full {
		full[i].Program.Code = slices.Repeat(code(api.IPush, 1000000, api.IPop, 0), 128)
	}
	if s, e := asm.List(full); s != "" || e != api.ErrLong {
		t.Errorf("64 great procedures: %d bytes, %d", len(s), e)
	}
}

// 4.1: the numbers of the first line, each at its place.
func TestListFirstLine(t *testing.T) {
	lib := []api.Proc{
		{Name: "a", Program: api.Program{Args: 1, Reads: 2, Writes: 3, Locals: 4}},
		{Name: "B_9", Program: api.Program{Args: 16, Reads: 15, Writes: 14, Locals: 13}},
		{Name: "proc"}, {Name: "end"}, {Name: "args"}, {Name: "L1"},
		{Name: "n" + strings.Repeat("_", 30)},
	}
	lists(t, lib, "proc a args 1 reads 2 writes 3 locals 4\nend\n"+
		"proc B_9 args 16 reads 15 writes 14 locals 13\nend\n"+
		"proc proc args 0 reads 0 writes 0 locals 0\nend\n"+
		"proc end args 0 reads 0 writes 0 locals 0\nend\n"+
		"proc args args 0 reads 0 writes 0 locals 0\nend\n"+
		"proc L1 args 0 reads 0 writes 0 locals 0\nend\n"+
		"proc n"+strings.Repeat("_", 30)+" args 0 reads 0 writes 0 locals 0\nend\n")
}

// 4.1: the line of each instruction: its name, and its argument where it has one, also where that is 0.
func TestListEachInstruction(t *testing.T) {
	// Behind stop nothing is reached: any instruction can stand there.
	stop := api.Instr{Op: api.IStop}
	for op, name := range []string{
		"stop", "", "pop", "dup", "", "", "", "", "", "getx",
		"add", "sub", "mul", "div", "mod", "and", "or", "xor", "shl", "shr",
		"neg", "not", "eq", "ne", "lt", "le", "gt", "ge", "min", "max",
		"", "", "", "", "putx", "out", "abort",
	} {
		if name != "" {
			lists(t, roomy([]api.Instr{stop, {Op: op}}), roomyLine+"  stop\n  "+name+"\nend\n")
		}
	}
	for op, name := range map[int]string{
		api.ILoad: "load", api.ISave: "save", api.IArg: "arg", api.IGet: "get", api.IHas: "has", api.IPut: "put", api.IDel: "del",
	} {
		for a := range int64(16) {
			lists(t, roomy([]api.Instr{stop, {Op: op, A: a}}), roomyLine+"  stop\n  "+name+" "+strconv.Itoa(int(a))+"\nend\n")
		}
	}
	for text, a := range map[string]int64{
		"0": 0, "7": 7, "-1": -1, "1000000": 1000000, "-9223372036854775808": math.MinInt64, "9223372036854775807": math.MaxInt64,
	} {
		lists(t, alone(code(api.IPush, a)), aloneLine+"  push "+text+"\nend\n")
	}
	lists(t, alone(code(api.IStop, 0, api.IJump, 2)), aloneLine+"  stop\n  jump L2\nL2:\nend\n")
	lists(t, alone(code(api.IStop, 0, api.IZero, 2)), aloneLine+"  stop\n  zero L2\nL2:\nend\n")
}

// 4.1: a label stands where a jump or zero goes, reached or not, and nowhere else; once, however many go there.
func TestListLabels(t *testing.T) {
	lists(t, alone(code(api.IPush, 3, api.IZero, 2, api.IStop, 0)), aloneLine+"  push 3\n  zero L2\nL2:\n  stop\nend\n")
	lists(t, alone(code(api.IJump, 4, api.IJump, 4, api.IJump, 3, api.IJump, 5, api.IStop, 0)),
		aloneLine+"  jump L4\n  jump L4\n  jump L3\nL3:\n  jump L5\nL4:\n  stop\nL5:\nend\n")
	lists(t, alone(code(api.IPush, 1, api.IPush, 2, api.IPop, 0, api.IPop, 0)), aloneLine+"  push 1\n  push 2\n  pop\n  pop\nend\n")
	// Two procedures have labels of their own, also of one name.
	two := []api.Proc{
		{Name: "a", Program: api.Program{Code: code(api.IJump, 1)}},
		{Name: "b", Program: api.Program{Code: code(api.IJump, 2, api.IStop, 0)}},
		{Name: "c", Program: api.Program{Code: code(api.IJump, 1, api.IStop, 0)}},
	}
	lists(t, two, "proc a args 0 reads 0 writes 0 locals 0\n  jump L1\nL1:\nend\n"+
		"proc b args 0 reads 0 writes 0 locals 0\n  jump L2\n  stop\nL2:\nend\n"+
		"proc c args 0 reads 0 writes 0 locals 0\n  jump L1\nL1:\n  stop\nend\n")
	// As many jumps as may be: each to the place behind it, and all to the end.
	next, end := aloneLine, aloneLine
	var toNext, toEnd []api.Instr
	for i := range 256 {
		toNext = append(toNext, api.Instr{Op: api.IJump, A: int64(i + 1)})
		toEnd = append(toEnd, api.Instr{Op: api.IJump, A: 256})
		next += "  jump L" + strconv.Itoa(i+1) + "\nL" + strconv.Itoa(i+1) + ":\n"
		end += "  jump L256\n"
	}
	lists(t, alone(toNext), next+"end\n")
	lists(t, alone(toEnd), end+"L256:\nend\n")
}

// 4.1: of a library that is not sound, also of one whose text would be too long, the error of lang.Check.
func TestListUnsound(t *testing.T) {
	long := many(63)
	for i := range long {
		long[i].Program.Code = slices.Repeat(code(api.IPush, math.MinInt64, api.IPop, 0), 128)
	}
	if s, e := asm.List(long); s != "" || e != api.ErrLong {
		t.Errorf("63 great procedures: %d bytes, %d", len(s), e)
	}
	for _, c := range []struct {
		lib []api.Proc
		e   api.Errno
	}{
		{[]api.Proc{{Name: "1x"}}, api.ErrName},
		{[]api.Proc{{Name: ""}}, api.ErrName},
		{[]api.Proc{{Name: "a\nb"}}, api.ErrName},
		{[]api.Proc{{Name: "a"}, {Name: "b"}, {Name: "a"}}, api.ErrName},
		{[]api.Proc{{Name: "a", Program: api.Program{Args: 17}}}, api.ErrProgram},
		{[]api.Proc{{Name: "a", Program: api.Program{Locals: -1}}}, api.ErrProgram},
		{alone(slices.Repeat(code(api.IStop, 0), 257)), api.ErrProgram},
		{alone(code(37, 0)), api.ErrOp},
		{alone(code(-1, 0)), api.ErrOp},
		{alone(code(api.IStop, 1)), api.ErrArg},
		{alone(code(api.IGet, 0)), api.ErrArg},
		{roomy(code(api.IGet, 16)), api.ErrArg},
		{alone(code(api.IJump, 0)), api.ErrJump},
		{alone(code(api.IJump, 2)), api.ErrJump},
		{alone(code(api.IJump, -1)), api.ErrJump},
		{alone(code(api.IJump, math.MaxInt64)), api.ErrJump},
		{alone(code(api.IZero, math.MinInt64)), api.ErrJump},
		{alone(code(api.IAdd, 0)), api.ErrStack},
		{append(bank(), alone(code(api.IPop, 0))...), api.ErrStack},
		{many(65), api.ErrProcs},
		{make([]api.Proc, 1000), api.ErrProcs},
	} {
		if s, e := asm.List(c.lib); s != "" || e != c.e {
			t.Errorf("List of %v is %q, %d, want %d", c.lib, s, e, c.e)
		}
		if len(c.lib) > 1 {
			continue
		}
		if s, e := asm.List(append(slices.Clone(long), c.lib[0])); s != "" || e != c.e {
			t.Errorf("63 great procedures and %v: %q, %d, want %d", c.lib, s, e, c.e)
		}
	}
}

// sized is a library whose text has so many bytes, from some 62000 to 130000, and that text.
func sized(size int) ([]api.Proc, string) {
	const procs, pairs = 40, 100
	const around, pair = len("proc p10 args 0 reads 0 writes 0 locals 0\nend\n"), len("  push 1\n  pop\n")
	spare := size - procs*(around+pairs*pair)
	var lib []api.Proc
	var text strings.Builder
	for i := range procs {
		p := api.Proc{Name: "p" + strconv.Itoa(10+i)}
		text.WriteString("proc " + p.Name + " args 0 reads 0 writes 0 locals 0\n")
		for range pairs {
			zeros := min(spare, 18)
			spare -= zeros
			digits := "1" + strings.Repeat("0", zeros)
			a, _ := strconv.ParseInt(digits, 10, 64)
			p.Program.Code = append(p.Program.Code, code(api.IPush, a, api.IPop, 0)...)
			text.WriteString("  push " + digits + "\n  pop\n")
		}
		text.WriteString("end\n")
		lib = append(lib, p)
	}
	return lib, text.String()
}

// 4.1: a text of MaxText bytes, and of one more.
func TestListLong(t *testing.T) {
	for size := api.MaxText - 20; size <= api.MaxText; size++ {
		lib, text := sized(size)
		if len(text) != size {
			t.Fatalf("the library of %d bytes has %d", size, len(text))
		}
		lists(t, lib, text)
	}
	for _, size := range []int{api.MaxText + 1, api.MaxText + 2, api.MaxText + 17, 2 * api.MaxText} {
		lib, text := sized(size)
		if len(text) != size {
			t.Fatalf("the library of %d bytes has %d", size, len(text))
		}
		if s, e := asm.List(lib); s != "" || e != api.ErrLong {
			t.Errorf("List of a library of %d bytes: %d bytes, %d", size, len(s), e)
		}
	}
}

// R4: what is handed in stays as it was, also behind its end.
func TestListLeavesInput(t *testing.T) {
	whole := append(bank(), api.Proc{Name: "behind"})
	room := slices.Concat(whole[0].Program.Code, code(99, 99, 98, 98))
	kept := slices.Clone(room)
	whole[0].Program.Code = room[:14]
	for range 3 {
		if s, e := asm.List(whole[:2]); s != strings.ReplaceAll(bankText, "go", "L6") || e != api.OK {
			t.Errorf("List is %q, %d", s, e)
		}
	}
	if !slices.Equal(room, kept) || !sameLib(whole[:2], bank()) || whole[2].Name != "behind" {
		t.Errorf("the library is %v", whole)
	}
}
