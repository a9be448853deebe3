package lang_test

import (
	"math"
	"strings"
	"testing"

	"prelude/api"
	"prelude/lang"
)

// What an instruction's A may be.
const (
	mustBe0 = iota
	anyNumber
	aLocal
	anArg
	aRead
	aWrite
	aPlace
)

// table is the chapter's, a row an instruction, by their numbers.
var table = []struct {
	op            int
	name          string
	a             int
	takes, leaves int
}{
	{api.IStop, "stop", mustBe0, 0, 0},
	{api.IPush, "push", anyNumber, 0, 1},
	{api.IPop, "pop", mustBe0, 1, 0},
	{api.IDup, "dup", mustBe0, 1, 2},
	{api.ILoad, "load", aLocal, 0, 1},
	{api.ISave, "save", aLocal, 1, 0},
	{api.IArg, "arg", anArg, 0, 1},
	{api.IGet, "get", aRead, 0, 1},
	{api.IHas, "has", aRead, 0, 1},
	{api.IGetX, "getx", mustBe0, 1, 1},
	{api.IAdd, "add", mustBe0, 2, 1},
	{api.ISub, "sub", mustBe0, 2, 1},
	{api.IMul, "mul", mustBe0, 2, 1},
	{api.IDiv, "div", mustBe0, 2, 1},
	{api.IMod, "mod", mustBe0, 2, 1},
	{api.IAnd, "and", mustBe0, 2, 1},
	{api.IOr, "or", mustBe0, 2, 1},
	{api.IXor, "xor", mustBe0, 2, 1},
	{api.IShl, "shl", mustBe0, 2, 1},
	{api.IShr, "shr", mustBe0, 2, 1},
	{api.INeg, "neg", mustBe0, 1, 1},
	{api.INot, "not", mustBe0, 1, 1},
	{api.IEq, "eq", mustBe0, 2, 1},
	{api.INe, "ne", mustBe0, 2, 1},
	{api.ILt, "lt", mustBe0, 2, 1},
	{api.ILe, "le", mustBe0, 2, 1},
	{api.IGt, "gt", mustBe0, 2, 1},
	{api.IGe, "ge", mustBe0, 2, 1},
	{api.IMin, "min", mustBe0, 2, 1},
	{api.IMax, "max", mustBe0, 2, 1},
	{api.IJump, "jump", aPlace, 0, 0},
	{api.IZero, "zero", aPlace, 1, 0},
	{api.IPut, "put", aWrite, 1, 0},
	{api.IDel, "del", aWrite, 0, 0},
	{api.IPutX, "putx", mustBe0, 2, 0},
	{api.IOut, "out", mustBe0, 1, 0},
	{api.IAbort, "abort", mustBe0, 1, 0},
}

// noOps is numbers that are no instruction's.
var noOps = []int{math.MinInt, math.MinInt + 1, -256, -65, -64, -37, -1, 37, 38, 63, 64, 65, 100, 101, 127, 128, 255, 256, 1 << 32, math.MaxInt}

// 3.4: the names of all instructions, there and back, and which have an argument.
func TestNames(t *testing.T) {
	if len(table) != api.NumOps {
		t.Fatalf("the table has %d rows", len(table))
	}
	for i, c := range table {
		if c.op != i {
			t.Fatalf("the row %d is that of %d", i, c.op)
		}
		if s := lang.Spell(c.op); s != c.name {
			t.Errorf("Spell(%d) is %q, want %q", c.op, s, c.name)
		}
		if op, ok := lang.Op(c.name); op != c.op || !ok {
			t.Errorf("Op(%q) is %d, %t", c.name, op, ok)
		}
		if got := lang.Wants(c.op); got != (c.a != mustBe0) {
			t.Errorf("Wants(%d) is %t", c.op, got)
		}
	}
}

// 3.4: the chapter's example, and numbers that are no instruction's.
func TestNamesOfOtherNumbers(t *testing.T) {
	if lang.Spell(api.IGetX) != "getx" || !lang.Wants(api.IPush) || !lang.Wants(api.IDel) || lang.Wants(api.IAdd) {
		t.Error("the chapter's example")
	}
	for _, op := range noOps {
		if s := lang.Spell(op); s != "" {
			t.Errorf("Spell(%d) is %q", op, s)
		}
		if lang.Wants(op) {
			t.Errorf("%d wants an argument", op)
		}
	}
}

// 3.4: texts that are no instruction's name.
func TestOpOfOtherTexts(t *testing.T) {
	others := []string{"", " ", "nop", "Max", "MAX", "IMax", "max ", " max", "max\n", "maxx", "ma", "getX", "put x", "pusһ", "push\x00", "\xff", "0", "37", strings.Repeat("stop", 1000)}
	for _, c := range table {
		others = append(others, strings.ToUpper(c.name), c.name+" ", c.name+c.name, c.name[:1])
	}
	for _, s := range others {
		if op, ok := lang.Op(s); op != 0 || ok {
			t.Errorf("Op(%q) is %d, %t", s, op, ok)
		}
	}
}
