package compile_test

import (
	"fmt"
	"reflect"
	"testing"

	"prelude/api"
	"prelude/compile"
	"prelude/vm"
)

func one01(holds bool) int64 {
	if holds {
		return 1
	}
	return 0
}

// one is what an instruction makes of one value.
func one(op int, x int64) int64 {
	if op == api.INeg {
		return -x
	}
	return one01(x == 0)
}

// both is what an instruction makes of two values, by the rules of chapter 5.
func both(op int, x, y int64) (int64, api.Errno) {
	switch op {
	case api.IDiv, api.IMod:
		if y == 0 {
			return 0, api.FaultDivide
		}
		if op == api.IDiv {
			return x / y, api.OK
		}
		return x % y, api.OK
	case api.IShl, api.IShr:
		if y < 0 {
			return 0, api.FaultShift
		}
		if op == api.IShl {
			return x << y, api.OK
		}
		return x >> y, api.OK
	}
	return map[int]int64{
		api.IAdd: x + y, api.ISub: x - y, api.IMul: x * y, api.IAnd: x & y, api.IOr: x | y, api.IXor: x ^ y,
		api.IEq: one01(x == y), api.INe: one01(x != y), api.ILt: one01(x < y), api.ILe: one01(x <= y), api.IGt: one01(x > y), api.IGe: one01(x >= y),
		api.IMin: min(x, y), api.IMax: max(x, y),
	}[op], api.OK
}

// doing is a procedure that is done by walking its tree, as the section 'What a source means' says.
type doing struct {
	values        []map[string]int64 // the constants and args, and what each block that is under way has let
	reads, writes []string
	cells         []api.Cell
	effect        api.Effect
}

// end is how a procedure ends ahead of its last statement: by a stop (api.OK), or by a fault.
type end struct {
	fault api.Errno
	user  int64
}

// meaning is what a procedure does.
func meaning(s api.Source, d api.Define, args []int64, cells []api.Cell) (effect api.Effect) {
	w := doing{values: []map[string]int64{{}}, cells: cells}
	for _, c := range s.Consts {
		w.values[0][c.Name] = w.eval(c.X)
	}
	for i, a := range d.Args {
		w.values[0][a.Text] = args[i]
	}
	for _, r := range d.Reads {
		w.reads = append(w.reads, r.Text)
	}
	for _, r := range d.Writes {
		w.writes = append(w.writes, r.Text)
	}
	none := make([]api.Put, len(d.Writes))
	w.effect = api.Effect{Commit: true, Puts: append([]api.Put{}, none...)}
	defer func() {
		effect = w.effect
		if found := recover(); found != nil {
			if e := found.(end); e.fault != api.OK {
				effect = api.Effect{Code: e.fault, User: e.user, Puts: none}
			}
		}
	}()
	w.block(d.Body)
	return w.effect
}

// holder is the values in which a name's value stands.
func (w *doing) holder(name string) map[string]int64 {
	for _, v := range w.values {
		if _, is := v[name]; is {
			return v
		}
	}
	panic("nothing has the name " + name)
}

func (w *doing) block(stmts []api.Stmt) {
	w.values = append(w.values, map[string]int64{})
	for _, s := range stmts {
		w.stmt(s)
	}
	w.values = w.values[:len(w.values)-1]
}

func (w *doing) put(i int64, p api.Put) {
	if i < 0 || i >= int64(len(w.effect.Puts)) {
		panic(end{fault: api.FaultIndex})
	}
	w.effect.Puts[i] = p
}

func (w *doing) stmt(s api.Stmt) {
	switch s.Kind {
	case api.SLet:
		w.values[len(w.values)-1][s.Name] = w.eval(s.X)
	case api.SSet:
		w.holder(s.Name)[s.Name] = w.eval(s.X)
	case api.SPut:
		w.put(int64(place(w.writes, s.Name)), api.Put{Kind: api.Set, Value: w.eval(s.X)})
	case api.SPutX:
		i := w.eval(s.X)
		w.put(i, api.Put{Kind: api.Set, Value: w.eval(s.Y)})
	case api.SDel:
		w.put(int64(place(w.writes, s.Name)), api.Put{Kind: api.Gone})
	case api.SOut:
		v := w.eval(s.X)
		if len(w.effect.Out) == 16 {
			panic(end{fault: api.FaultOut})
		}
		w.effect.Out = append(w.effect.Out, v)
	case api.SAbort:
		panic(end{api.FaultAbort, w.eval(s.X)})
	case api.SStop:
		panic(end{})
	case api.SIf:
		if w.eval(s.X) != 0 {
			w.block(s.Body)
		} else {
			w.block(s.Else)
		}
	case api.SRepeat:
		for range w.eval(s.X) {
			w.block(s.Body)
		}
	}
}

func (w *doing) get(i int64) int64 {
	if i < 0 || i >= int64(len(w.cells)) {
		panic(end{fault: api.FaultIndex})
	}
	return w.cells[i].Value
}

func (w *doing) eval(x api.Expr) int64 {
	switch x.Kind {
	case api.ENum:
		return x.N
	case api.EName:
		return w.holder(x.Name)[x.Name]
	case api.EGet:
		return w.get(int64(place(w.reads, x.Name)))
	case api.EHas:
		return one01(w.cells[place(w.reads, x.Name)].Is)
	}
	first := w.eval(x.Args[0])
	switch x.Kind {
	case api.EGetX:
		return w.get(first)
	case api.EUnary:
		return one(x.Op, first)
	case api.EAnd:
		return one01(first != 0 && w.eval(x.Args[1]) != 0)
	case api.EOr:
		return one01(first != 0 || w.eval(x.Args[1]) != 0)
	case api.ECond:
		if first != 0 {
			return w.eval(x.Args[1])
		}
		return w.eval(x.Args[2])
	}
	v, fault := both(x.Op, first, w.eval(x.Args[1]))
	if fault != api.OK {
		panic(end{fault: fault})
	}
	return v
}

// runs asks that a procedure's program does what its tree means.
func runs(t *testing.T, s api.Source, i int, p api.Program, args []int64, cells []api.Cell) api.Effect {
	t.Helper()
	got, e := vm.Run(p, args, cells)
	if e != api.OK {
		t.Fatalf("%v: Run is %d", s.Procs[i], e)
	}
	want := meaning(s, s.Procs[i], args, cells)
	got.Steps = 0
	if len(got.Out) == 0 {
		got.Out = nil
	}
	if len(got.Puts) == 0 && len(want.Puts) == 0 {
		got.Puts, want.Puts = nil, nil
	}
	if !reflect.DeepEqual(got, want) {
		t.Fatalf("%v of %v, %v is\n%v, want\n%v", s, args, cells, got, want)
	}
	return got
}

// 19.4: any sources that are taken, any args and cells.
func TestRunsAsMeant(t *testing.T) {
	m := newMaker(194, 0)
	codes := map[api.Errno]int{}
	puts, outs := 0, 0
	for range 20000 {
		s := m.source()
		lib, err := compile.Compile(s)
		if err != nil {
			continue
		}
		for i, p := range lib {
			for range 3 {
				args, cells := make([]int64, p.Program.Args), make([]api.Cell, p.Program.Reads)
				for j := range args {
					args[j] = m.number()
				}
				for j := range cells {
					if m.Intn(3) > 0 {
						cells[j] = api.Cell{Is: true, Value: m.number()}
					}
				}
				e := runs(t, s, i, p.Program, args, cells)
				codes[e.Code]++
				outs += len(e.Out)
				for _, put := range e.Puts {
					puts += put.Kind
				}
			}
		}
	}
	for _, e := range []api.Errno{api.OK, api.FaultAbort, api.FaultDivide, api.FaultShift, api.FaultIndex, api.FaultOut} {
		if codes[e] < 20 {
			t.Errorf("of %d there were %d", e, codes[e])
		}
	}
	if puts < 1000 || outs < 1000 {
		t.Errorf("%d puts, %d outputs", puts, outs)
	}
}

// does asks what a procedure with reads r, s and writes w, v does.
func does(t *testing.T, body string, args []int64, cells []api.Cell, want api.Effect) {
	t.Helper()
	params := list("a", len(args))
	s := parsed(t, "const k = 3; proc p("+params+") reads r, s writes w, v { "+body+" }")
	p := compiled(t, s)[0].Program
	got := runs(t, s, 0, p, args, cells)
	if want.Puts == nil {
		want.Puts = make([]api.Put, 2)
	}
	if fmt.Sprint(got) != fmt.Sprint(want) {
		t.Errorf("%q of %v, %v is %v, want %v", body, args, cells, got, want)
	}
}

// 19.4: what a source means, thing by thing.
func TestMeanings(t *testing.T) {
	cells := []api.Cell{{Is: true, Value: 5}, {}}
	commits := func(out ...int64) api.Effect { return api.Effect{Commit: true, Out: out} }
	does(t, "out get(r); out has(r); out get(s); out has(s); out get[0]; out get[1];", nil, cells, commits(5, 1, 0, 0, 5, 0))
	does(t, "out get[2];", nil, cells, api.Effect{Code: api.FaultIndex})
	does(t, "out get[-1];", nil, cells, api.Effect{Code: api.FaultIndex})
	does(t, "let x = a0; x = x * k; out x; out a0;", []int64{7}, cells, commits(21, 7))
	does(t, "let x = 1; repeat 5 { x = x * 2; } out x;", nil, cells, commits(32))
	does(t, "let x = 1; repeat 3 { let y = x; x = x + y; repeat 2 { let z = y; x = x + z; } } out x;", nil, cells, commits(64))
	does(t, "if a0 { out 1; } else if a1 { out 2; } else { out 3; }", []int64{-1, 0}, cells, commits(1))
	does(t, "if a0 { out 1; } else if a1 { out 2; } else { out 3; }", []int64{0, 9}, cells, commits(2))
	does(t, "if a0 { out 1; } else if a1 { out 2; } else { out 3; }", []int64{0, 0}, cells, commits(3))
	does(t, "out 1; stop; out 2;", nil, cells, commits(1))
	does(t, "out 1; repeat 9 { out 2; if k { stop; } } out 3;", nil, cells, commits(1, 2))
	does(t, "put w = 1; out 1; abort a0 + 1; out 2;", []int64{7}, cells, api.Effect{Code: api.FaultAbort, User: 8})
	does(t, "repeat 17 { out 1; }", nil, cells, api.Effect{Code: api.FaultOut})
	does(t, "put w = 4; del v; put w = 6;", nil, cells, api.Effect{Commit: true, Puts: []api.Put{{Kind: api.Set, Value: 6}, {Kind: api.Gone}}})
	does(t, "put v = 4; del v; put [0] = 9;", nil, cells, api.Effect{Commit: true, Puts: []api.Put{{Kind: api.Set, Value: 9}, {Kind: api.Gone}}})
	does(t, "put [2] = 9;", nil, cells, api.Effect{Code: api.FaultIndex})
	// The number and the value of a put by number, in that order: the first one that fails.
	does(t, "put [1 / 0] = 1 << -1;", nil, cells, api.Effect{Code: api.FaultDivide})
	does(t, "put [9] = 1 << -1;", nil, cells, api.Effect{Code: api.FaultShift})
	// What is not looked at does not fail; what is does.
	does(t, "out a0 && 1 / 0; out 1 || 1 / 0; out a0 ? 1 / 0 : 4; out 1 ? 5 : 1 / 0;", []int64{0}, cells, commits(0, 1, 4, 5))
	does(t, "out a0 && 1 / 0;", []int64{2}, cells, api.Effect{Code: api.FaultDivide})
	does(t, "out a0 || 1 / 0;", []int64{0}, cells, api.Effect{Code: api.FaultDivide})
	does(t, "out 7 && -7; out 0 || -7; out 7 && 0; out 0 || 0;", nil, cells, commits(1, 1, 0, 0))
	// From the left to the right.
	does(t, "out (1 / 0) + (1 << -1);", nil, cells, api.Effect{Code: api.FaultDivide})
	does(t, "out (1 << -1) + (1 / 0);", nil, cells, api.Effect{Code: api.FaultShift})
	does(t, "out get[get[5]] + 1 / 0;", nil, cells, api.Effect{Code: api.FaultIndex})
	// A local of a block that is begun again is let anew.
	does(t, "repeat 3 { let x = 1; x = x + 1; out x; }", nil, cells, commits(2, 2, 2))
}
