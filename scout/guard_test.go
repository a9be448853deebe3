package scout_test

import (
	"reflect"
	"strings"
	"testing"

	"prelude/api"
	"prelude/asm"
	"prelude/codec"
	"prelude/lang"
	"prelude/scout"
)

// putAlone is the chapter's procedure.
func putAlone() api.Proc {
	return api.Proc{Name: "put", Program: api.Program{Args: 1, Writes: 1, Code: []api.Instr{{Op: api.IArg}, {Op: api.IPut}}}}
}

// spelt is a code in words.
func spelt(code []api.Instr) string {
	var list []string
	for _, in := range code {
		w := lang.Spell(in.Op)
		if lang.Wants(in.Op) {
			w += " " + codec.Digits(in.A)
		}
		list = append(list, w)
	}
	return strings.Join(list, ", ")
}

// guards asks for a guarded procedure, by its name, numbers and code.
func guards(t *testing.T, p api.Proc, n int, name string, sizes [4]int, code string) {
	t.Helper()
	q, f := scout.Guard(p, n)
	g := q.Program
	if f != api.OK || q.Name != name || [4]int{g.Args, g.Reads, g.Writes, g.Locals} != sizes || spelt(g.Code) != code {
		t.Errorf("%s guarded by %d: %v, %s, %d, want %s, %v, %s", p.Name, n, q, spelt(g.Code), f, name, sizes, code)
	}
	if _, f := lang.Check([]api.Proc{q}); f != api.OK {
		t.Errorf("%s is not sound: %d", q.Name, f)
	}
}

// unguarded asks that a procedure can't be guarded so.
func unguarded(t *testing.T, p api.Proc, n int, want api.Errno) {
	t.Helper()
	if q, f := scout.Guard(p, n); f != want || !reflect.DeepEqual(q, api.Proc{}) {
		t.Errorf("%s guarded by %d: %v, %d, want %d", p.Name, n, q, f, want)
	}
}

// long is a procedure of so many instructions.
func long(size int) api.Proc {
	p := api.Proc{Name: "p"}
	for range size {
		p.Program.Code = append(p.Program.Code, api.Instr{Op: api.IStop})
	}
	return p
}

// 22.1: example 1, and what more guards make of it.
func TestGuard(t *testing.T) {
	guards(t, putAlone(), 1, "put_g1", [4]int{2, 1, 1, 0}, "has 0, zero 7, get 0, arg 0, eq, zero 7, jump 9, push 4611686018427387904, abort, arg 1, put 0")
	guards(t, putAlone(), 0, "put_g0", [4]int{1, 0, 1, 0}, "arg 0, put 0")
	guards(t, putAlone(), 2, "put_g2", [4]int{3, 2, 1, 0}, "has 0, zero 13, get 0, arg 0, eq, zero 13, has 1, zero 13, get 1, arg 1, eq, zero 13, jump 15, push 4611686018427387904, abort, arg 2, put 0")
	unguarded(t, putAlone(), 16, api.ErrArgs)
	q, f := scout.Guard(putAlone(), 15)
	if f != api.OK || q.Name != "put_g15" || q.Program.Args != 16 || len(q.Program.Code) != 95 {
		t.Errorf("%v, %d", q, f)
	}
	// A procedure without code has nothing to do but look.
	guards(t, long(0), 1, "p_g1", [4]int{1, 1, 0, 0}, "has 0, zero 7, get 0, arg 0, eq, zero 7, jump 9, push 4611686018427387904, abort")
	guards(t, long(0), 0, "p_g0", [4]int{}, "")
}

// 22.1: of the code, args, reads and jumps are others, and nothing else is.
func TestGuardedCode(t *testing.T) {
	for op := range api.NumOps {
		if op == api.IGetX {
			continue
		}
		in := api.Instr{Op: op}
		if lang.Wants(op) {
			in.A = 4 // a place at the end; or the fifth of whatever it is
		}
		p := api.Proc{Name: "p", Program: api.Program{Args: 5, Reads: 6, Writes: 7, Locals: 8, Code: []api.Instr{{Op: api.IPush, A: 1}, {Op: api.IPush, A: 1}, in, {Op: api.IStop}}}}
		for n := range 11 {
			q, f := scout.Guard(p, n)
			if f != api.OK {
				t.Fatal(lang.Spell(op), n, f)
			}
			front := 0
			if n > 0 {
				front = 6*n + 3
			}
			want := in
			switch lang.Spell(op) {
			case "arg", "get", "has":
				want.A += int64(n)
			case "jump", "zero":
				want.A += int64(front)
			}
			g := q.Program
			if g.Args != 5+n || g.Reads != 6+n || g.Writes != 7 || g.Locals != 8 || len(g.Code) != front+4 {
				t.Fatalf("%d guards: %v", n, g)
			}
			if spelt(g.Code[front:front+2]) != "push 1, push 1" || g.Code[front+2] != want || g.Code[front+3].Op != api.IStop {
				t.Errorf("%d guards: %s, want %v", n, spelt(g.Code), want)
			}
		}
	}
}

// 22.1: each limit, and one past it.
func TestGuardLimits(t *testing.T) {
	for n := range api.MaxArgs + 1 {
		p := long(1)
		p.Program.Args = api.MaxArgs - n
		if q, f := scout.Guard(p, n); f != api.OK || q.Program.Args != api.MaxArgs || q.Program.Reads != n {
			t.Errorf("%d: %v, %d", n, q, f)
		}
		unguarded(t, p, n+1, api.ErrArgs)
		p = long(1)
		p.Program.Reads = api.MaxReads - n
		if q, f := scout.Guard(p, n); f != api.OK || q.Program.Reads != api.MaxReads || q.Program.Args != n {
			t.Errorf("%d: %v, %d", n, q, f)
		}
		if n < api.MaxArgs {
			unguarded(t, p, n+1, api.ErrReads)
		}
		p = long(api.MaxCode - 6*n - 3)
		if q, f := scout.Guard(p, n); f != api.OK || n > 0 && len(q.Program.Code) != api.MaxCode {
			t.Errorf("%d: %v, %d", n, q, f)
		}
		p = long(api.MaxCode - 6*n - 2)
		if n > 0 {
			unguarded(t, p, n, api.ErrLarge)
		}
		p = long(1)
		p.Name = strings.Repeat("n", api.MaxName-2-len(codec.Digits(int64(n))))
		if q, f := scout.Guard(p, n); f != api.OK || q.Name != p.Name+"_g"+codec.Digits(int64(n)) {
			t.Errorf("%d: %v, %d", n, q, f)
		}
		p.Name += "n"
		unguarded(t, p, n, api.ErrName)
	}
	if q, f := scout.Guard(long(api.MaxCode), 0); f != api.OK || len(q.Program.Code) != api.MaxCode {
		t.Errorf("%v, %d", q, f)
	}
	unguarded(t, long(api.MaxCode), 1, api.ErrLarge)
	for _, n := range edges() {
		if n < 0 || n > api.MaxArgs {
			unguarded(t, long(1), n, api.ErrArgs)
			unguarded(t, putAlone(), n, api.ErrArgs)
		}
	}
}

// 22.1: one that reads by number can't be guarded, whether it comes so far or not; not even by none.
func TestGuardBlind(t *testing.T) {
	p := api.Proc{Name: "b", Program: api.Program{Reads: 1, Code: []api.Instr{{Op: api.IPush}, {Op: api.IGetX}, {Op: api.IPop}}}}
	never := api.Proc{Name: "b", Program: api.Program{Reads: 1, Code: []api.Instr{{Op: api.IStop}, {Op: api.IGetX}}}}
	for n := range 16 {
		unguarded(t, p, n, api.ErrBlind)
		unguarded(t, never, n, api.ErrBlind)
	}
	// Writes by number stay as they are.
	put := api.Proc{Name: "b", Program: api.Program{Writes: 1, Code: []api.Instr{{Op: api.IPush}, {Op: api.IDup}, {Op: api.IPutX}}}}
	guards(t, put, 0, "b_g0", [4]int{0, 0, 1, 0}, "push 0, dup, putx")
}

// 22.1: of several errors the one that is named first.
func TestGuardOrder(t *testing.T) {
	all := long(api.MaxCode)
	all.Name = strings.Repeat("n", api.MaxName)
	all.Program.Args, all.Program.Reads = 1, 1
	all.Program.Code[0] = api.Instr{Op: api.IStop}
	all.Program.Code[1] = api.Instr{Op: api.IGetX}
	p := all
	p.Name = ""
	unguarded(t, p, 16, api.ErrName)
	p = all
	p.Name = "1x"
	unguarded(t, p, -1, api.ErrName)
	p = all
	p.Program.Writes = 17
	unguarded(t, p, -1, api.ErrProgram)
	p = all
	p.Program.Args = -1
	unguarded(t, p, 16, api.ErrProgram)
	p.Program.Args = 17
	unguarded(t, p, 0, api.ErrProgram)
	p = long(1)
	p.Program.Code[0].Op = 99
	unguarded(t, p, 99, api.ErrOp)
	p.Program.Code[0] = api.Instr{Op: api.IJump}
	unguarded(t, p, 99, api.ErrJump)
	p.Program.Code[0] = api.Instr{Op: api.IStop, A: 1}
	unguarded(t, p, 99, api.ErrArg)
	p.Program.Code[0] = api.Instr{Op: api.IPop}
	unguarded(t, p, 99, api.ErrStack)
	unguarded(t, long(api.MaxCode+1), 99, api.ErrProgram)
	unguarded(t, all, 16, api.ErrArgs)
	all.Program.Args = 0
	unguarded(t, all, 16, api.ErrReads)
	all.Program.Reads = 0
	unguarded(t, all, 16, api.ErrName)
	all.Name = "n"
	unguarded(t, all, 16, api.ErrBlind)
	all.Program.Code[1] = api.Instr{Op: api.IStop}
	unguarded(t, all, 16, api.ErrLarge)
}

// 22.2: the chapter's library, and where each procedure stands.
func TestLibrary(t *testing.T) {
	lib, f := scout.Library([]api.Proc{putAlone()}, 2)
	if f != api.OK || len(lib) != 3 || lib[0].Name != "put" || lib[1].Name != "put_g1" || lib[2].Name != "put_g2" {
		t.Fatalf("%v, %d", lib, f)
	}
	same(t, "as it was", lib[0], putAlone())
	for most := range 4 {
		lib, f := scout.Library(base(), most)
		if f != api.OK || len(lib) != bases()*(most+1) {
			t.Fatalf("%v, %d", lib, f)
		}
		if _, f := lang.Check(lib); f != api.OK {
			t.Errorf("%d", f)
		}
		for i, p := range base() {
			same(t, p.Name, lib[i], p)
			for g := 1; g <= most; g++ {
				want, _ := scout.Guard(p, g)
				same(t, want.Name, lib[g*bases()+i], want)
			}
		}
	}
	// It can be written, and read again.
	text, f := asm.List(guarded(t, 3))
	again, err := asm.Assemble(text)
	if f != api.OK || err != nil {
		t.Fatal(f, err)
	}
	same(t, "read again", again, guarded(t, 3))
}

// nolib asks that a library can't be guarded by up to so many.
func nolib(t *testing.T, lib []api.Proc, most int, want api.Errno) {
	t.Helper()
	if l, f := scout.Library(lib, most); f != want || len(l) != 0 {
		t.Errorf("%d procedures, most %d: %v, %d, want %d", len(lib), most, l, f, want)
	}
}

// many is so many procedures.
func many(n int) []api.Proc {
	var lib []api.Proc
	for i := range n {
		p := long(i % 3)
		p.Name += codec.Digits(int64(i))
		lib = append(lib, p)
	}
	return lib
}

// 22.2: no more procedures than a library may have, whatever number is asked for.
func TestLibraryRoom(t *testing.T) {
	for p := 1; p <= api.MaxProcs; p++ {
		lib := many(p)
		for _, most := range edges() {
			if most < 0 || most >= api.MaxProcs {
				nolib(t, lib, most, api.ErrProcs)
			}
		}
		most := api.MaxProcs/p - 1
		nolib(t, lib, most+1, api.ErrProcs)
		if most > 16 {
			nolib(t, lib, most, api.ErrArgs)
			most = 16
		}
		if l, f := scout.Library(lib, most); f != api.OK || len(l) != p*(most+1) {
			t.Errorf("%d procedures, most %d: %d, %d", p, most, len(l), f)
		}
	}
	for _, most := range edges() {
		if most < 0 {
			nolib(t, nil, most, api.ErrProcs)
		} else {
			nolib(t, nil, most, api.OK)
		}
	}
	nolib(t, many(65), 0, api.ErrProcs)
	nolib(t, many(65), -1, api.ErrProcs)
}

// 22.2: what is wrong, in the order in which it is named.
func TestLibraryRefuses(t *testing.T) {
	bad := putAlone()
	bad.Program.Args = 0
	nolib(t, []api.Proc{putAlone(), bad}, -1, api.ErrName)
	bad.Name = "other"
	nolib(t, []api.Proc{putAlone(), bad}, -1, api.ErrArg)
	nolib(t, []api.Proc{putAlone()}, 64, api.ErrProcs)
	nolib(t, []api.Proc{putAlone()}, 16, api.ErrArgs)
	nolib(t, []api.Proc{putAlone()}, 63, api.ErrArgs)
	// By the number of guards first, then by procedures.
	wide, blind := long(1), long(1)
	wide.Name, wide.Program.Reads = "wide", api.MaxReads-1
	blind.Name, blind.Program.Reads, blind.Program.Code = "blind", 1, []api.Instr{{Op: api.IStop}, {Op: api.IGetX}}
	nolib(t, []api.Proc{wide, blind}, 1, api.ErrBlind)
	nolib(t, []api.Proc{wide, blind}, 2, api.ErrBlind)
	nolib(t, []api.Proc{wide, wide2()}, 2, api.ErrReads)
	nolib(t, []api.Proc{wide2(), wide}, 2, api.ErrArgs)
	nolib(t, []api.Proc{wide2(), wide}, 9, api.ErrArgs)
	if l, f := scout.Library([]api.Proc{wide, blind}, 0); f != api.OK || len(l) != 2 {
		t.Errorf("%v, %d", l, f)
	}
	nolib(t, []api.Proc{long(api.MaxCode - 9), long2(api.MaxCode - 8)}, 1, api.ErrLarge)
	nolib(t, []api.Proc{long(api.MaxCode - 9), long2(api.MaxCode - 9)}, 2, api.ErrLarge)
	// Two may have one name, and a name may become too long by the digits alone.
	other := putAlone()
	other.Name = "put_g2"
	if l, f := scout.Library([]api.Proc{putAlone(), other}, 1); f != api.OK || len(l) != 4 || l[3].Name != "put_g2_g1" {
		t.Errorf("%v, %d", l, f)
	}
	nolib(t, []api.Proc{putAlone(), other}, 2, api.ErrName)
	other.Name, other.Program = strings.Repeat("n", 28), long(1).Program
	if l, f := scout.Library([]api.Proc{other}, 9); f != api.OK || len(l) != 10 {
		t.Errorf("%v, %d", l, f)
	}
	nolib(t, []api.Proc{other}, 10, api.ErrName)
}

// wide2 is a procedure with many args.
func wide2() api.Proc {
	p := long(1)
	p.Name, p.Program.Args = "wide2", api.MaxArgs-1
	return p
}

// long2 is a procedure of so many instructions by another name.
func long2(size int) api.Proc {
	p := long(size)
	p.Name = "p2"
	return p
}
