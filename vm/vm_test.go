package vm_test

import (
	"math"
	"slices"
	"testing"

	"prelude/api"
	"prelude/lang"
	"prelude/vm"
)

// code is instructions, of their Ops and As by turns.
func code(l ...int64) []api.Instr {
	var c []api.Instr
	for i := 0; i < len(l); i += 2 {
		c = append(c, api.Instr{Op: int(l[i]), A: l[i+1]})
	}
	return c
}

// alone is a program of instructions that need nothing else.
func alone(l ...int64) api.Program { return api.Program{Code: code(l...)} }

// move is the program of chapter 4's procedure move.
func move() api.Program {
	return api.Program{Args: 1, Reads: 2, Writes: 2, Code: code(
		api.IGet, 0, api.IArg, 0, api.ILt, 0, api.IZero, 6, api.IPush, 1, api.IAbort, 0,
		api.IGet, 0, api.IArg, 0, api.ISub, 0, api.IPut, 0, api.IGet, 1, api.IArg, 0, api.IAdd, 0, api.IPut, 1)}
}

// cells is cells with values in them.
func cells(values ...int64) []api.Cell {
	var c []api.Cell
	for _, v := range values {
		c = append(c, api.Cell{Is: true, Value: v})
	}
	return c
}

// commits is the effect of a program that commits.
func commits(steps int, out []int64, puts ...api.Put) api.Effect {
	return api.Effect{Commit: true, Out: out, Puts: puts, Steps: steps}
}

// fails is the effect of a program that fails.
func fails(steps int, fault api.Errno, user int64, writes int) api.Effect {
	return api.Effect{Code: fault, User: user, Puts: make([]api.Put, writes), Steps: steps}
}

// same tells whether two effects are the same; an empty list may be nil.
func same(a, b api.Effect) bool {
	return a.Commit == b.Commit && a.Code == b.Code && a.User == b.User && a.Steps == b.Steps &&
		slices.Equal(a.Out, b.Out) && slices.Equal(a.Puts, b.Puts)
}

// started is a machine that must come to be.
func started(t *testing.T, p api.Program, args []int64, reads []api.Cell) *vm.Machine {
	t.Helper()
	m, e := vm.New(p, args, reads)
	if e != api.OK || m == nil {
		t.Fatalf("New of %v, %v, %v is %v, %d", p, args, reads, m, e)
	}
	return m
}

// does holds the effect of a program, run and stepped, against what it should be; the machine that was stepped is handed back.
func does(t *testing.T, p api.Program, args []int64, reads []api.Cell, want api.Effect) *vm.Machine {
	t.Helper()
	if a, e := vm.Run(p, args, reads); e != api.OK || !same(a, want) {
		t.Errorf("Run of %v, %v, %v is %v, %d, want %v", p, args, reads, a, e, want)
	}
	m := started(t, p, args, reads)
	for n := range want.Steps {
		if m.Done() || !same(m.Effect(), api.Effect{}) {
			t.Errorf("%v, %v, %v: behind %d steps it is done: %t, with %v", p, args, reads, n, m.Done(), m.Effect())
		}
		if !m.Step() {
			t.Errorf("%v, %v, %v: behind %d steps there is no step", p, args, reads, n)
		}
	}
	if !m.Done() || !same(m.Effect(), want) {
		t.Errorf("%v, %v, %v: done: %t, with %v, want %v", p, args, reads, m.Done(), m.Effect(), want)
	}
	return m
}

// looks holds a machine's place, stack and locals against what they should be.
func looks(t *testing.T, m *vm.Machine, at int, stack, locals []int64) {
	t.Helper()
	if m.At() != at || !slices.Equal(m.Stack(), stack) || !slices.Equal(m.Locals(), locals) {
		t.Errorf("at %d, stack %v, locals %v, want %d, %v, %v", m.At(), m.Stack(), m.Locals(), at, stack, locals)
	}
}

// 5.1, 5.4, 5.5: the chapter's examples 1 to 6.
func TestRunExamples(t *testing.T) {
	set := func(v int64) api.Put { return api.Put{Kind: api.Set, Value: v} }
	does(t, move(), []int64{4}, cells(10, 5), commits(12, nil, set(6), set(9)))
	does(t, move(), []int64{20}, cells(6, 9), fails(6, api.FaultAbort, 1, 2))
	does(t, move(), []int64{1}, make([]api.Cell, 2), fails(6, api.FaultAbort, 1, 2))
	for _, c := range []struct {
		p     api.Program
		reads []api.Cell
		want  api.Effect
	}{
		{alone(api.IPush, 1, api.IPush, 0, api.IDiv, 0), nil, fails(3, api.FaultDivide, 0, 0)},
		{alone(api.IPush, math.MinInt64, api.IPush, -1, api.IDiv, 0, api.IOut, 0), nil, commits(4, []int64{math.MinInt64})},
		{alone(api.IPush, 1, api.IPush, 64, api.IShl, 0, api.IOut, 0), nil, commits(4, []int64{0})},
		{alone(api.IPush, -8, api.IPush, 99, api.IShr, 0, api.IOut, 0), nil, commits(4, []int64{-1})},
		{alone(api.IPush, 1, api.IPush, -1, api.IShl, 0), nil, fails(3, api.FaultShift, 0, 0)},
		{api.Program{Reads: 1, Code: code(api.IPush, 1, api.IGetX, 0)}, cells(4), fails(2, api.FaultIndex, 0, 0)},
		{api.Program{Writes: 1, Code: code(api.IPush, 0, api.IPush, 7, api.IPutX, 0)}, nil, commits(3, nil, set(7))},
		{api.Program{Writes: 1, Code: code(api.IPush, -1, api.IPush, 7, api.IPutX, 0)}, nil, fails(3, api.FaultIndex, 0, 1)},
		{api.Program{Writes: 1, Code: code(api.IPush, 3, api.IPut, 0, api.IDel, 0)}, nil, commits(3, nil, api.Put{Kind: api.Gone})},
		{api.Program{Writes: 1, Code: code(api.IDel, 0, api.IPush, 3, api.IPut, 0)}, nil, commits(3, nil, set(3))},
		{api.Program{Code: slices.Repeat(code(api.IPush, 1, api.IOut, 0), 17)}, nil, fails(34, api.FaultOut, 0, 0)},
		{api.Program{}, nil, commits(0, nil)},
		{api.Program{Code: []api.Instr{}}, nil, commits(0, nil)},
	} {
		does(t, c.p, nil, c.reads, c.want)
	}
}

// 5.2, 5.3: the chapter's examples 7 and 8.
func TestMachineExamples(t *testing.T) {
	m := started(t, alone(api.IPush, 3, api.IPush, 4, api.IAdd, 0, api.IOut, 0), nil, nil)
	for _, c := range []struct {
		at    int
		stack []int64
	}{{0, nil}, {1, []int64{3}}, {2, []int64{3, 4}}, {3, []int64{7}}} {
		looks(t, m, c.at, c.stack, nil)
		if m.Done() || !m.Step() {
			t.Errorf("at %d it is done", c.at)
		}
	}
	for range 3 {
		looks(t, m, 4, nil, nil)
		if !m.Done() || m.Step() || !same(m.Effect(), commits(4, []int64{7})) {
			t.Errorf("behind the end: %v", m.Effect())
		}
	}
	looks(t, does(t, api.Program{}, nil, nil, commits(0, nil)), 0, nil, nil)
	looks(t, does(t, alone(api.IStop, 0), nil, nil, commits(1, nil)), 0, nil, nil)
	looks(t, does(t, alone(api.IJump, 1), nil, nil, commits(1, nil)), 1, nil, nil)
}

// refuses holds what New and Run answer of a call that can't be against the error that they should.
func refuses(t *testing.T, p api.Program, args []int64, reads []api.Cell, want api.Errno) {
	t.Helper()
	if m, e := vm.New(p, args, reads); m != nil || e != want {
		t.Errorf("New of %v, %v, %v is %v, %d, want %d", p, args, reads, m, e, want)
	}
	if a, e := vm.Run(p, args, reads); !same(a, api.Effect{}) || e != want {
		t.Errorf("Run of %v, %v, %v is %v, %d, want %d", p, args, reads, a, e, want)
	}
}

// 5.1, 5.5: lang.Verify's error, also ahead of ErrCall.
func TestUnsoundPrograms(t *testing.T) {
	for _, c := range []struct {
		p    api.Program
		want api.Errno
	}{
		{api.Program{Args: 17}, api.ErrProgram},
		{api.Program{Args: -1}, api.ErrProgram},
		{api.Program{Reads: 17}, api.ErrProgram},
		{api.Program{Reads: -1}, api.ErrProgram},
		{api.Program{Writes: 17}, api.ErrProgram},
		{api.Program{Writes: math.MinInt}, api.ErrProgram},
		{api.Program{Locals: math.MaxInt}, api.ErrProgram},
		{api.Program{Locals: -1}, api.ErrProgram},
		{api.Program{Code: slices.Repeat(code(api.IStop, 0), 257)}, api.ErrProgram},
		{alone(api.NumOps, 0), api.ErrOp},
		{alone(-1, 0), api.ErrOp},
		{alone(api.IStop, 0, api.NumOps, 0), api.ErrOp},
		{alone(api.IJump, 0), api.ErrJump},
		{alone(api.IPush, 0, api.IZero, 3), api.ErrJump},
		{alone(api.IStop, 1), api.ErrArg},
		{alone(api.ILoad, 0), api.ErrArg},
		{alone(api.IGet, 0), api.ErrArg},
		{alone(api.IDel, 0), api.ErrArg},
		{alone(api.IPop, 0), api.ErrStack},
		{alone(api.IPush, 1, api.IAdd, 0), api.ErrStack},
		{api.Program{Code: slices.Repeat(code(api.IPush, 0), 33)}, api.ErrStack},
	} {
		for n := range 3 {
			refuses(t, c.p, make([]int64, n), make([]api.Cell, n), c.want)
		}
		refuses(t, c.p, nil, nil, c.want)
		refuses(t, c.p, make([]int64, 17), make([]api.Cell, 17), c.want)
	}
}

// 5.1, 5.5: ErrCall for each other number of args, or of reads; a machine where both are as they are asked for.
func TestCallsOfOtherNumbers(t *testing.T) {
	for asked := range api.MaxArgs + 1 {
		for given := range api.MaxArgs + 2 {
			byArgs := api.Program{Args: asked, Reads: 2}
			byReads := api.Program{Args: 2, Reads: asked}
			if given == asked {
				does(t, byArgs, make([]int64, given), make([]api.Cell, 2), commits(0, nil))
				does(t, byReads, make([]int64, 2), make([]api.Cell, given), commits(0, nil))
				continue
			}
			refuses(t, byArgs, make([]int64, given), make([]api.Cell, 2), api.ErrCall)
			refuses(t, byReads, make([]int64, 2), make([]api.Cell, given), api.ErrCall)
		}
	}
	refuses(t, move(), []int64{4}, cells(10), api.ErrCall)
	refuses(t, move(), nil, cells(10, 5), api.ErrCall)
	refuses(t, move(), []int64{4}, nil, api.ErrCall)
	refuses(t, move(), []int64{4}, cells(10, 5, 1), api.ErrCall)
	refuses(t, api.Program{}, []int64{0}, nil, api.ErrCall)
	refuses(t, api.Program{}, nil, cells(0), api.ErrCall)
}

// 5.1: a machine stands at the place 0, with an empty stack and all locals 0.
func TestNew(t *testing.T) {
	for n := range api.MaxLocals + 1 {
		m := started(t, api.Program{Locals: n, Code: code(api.IPush, 5)}, nil, nil)
		looks(t, m, 0, nil, make([]int64, n))
		if m.Done() || !same(m.Effect(), api.Effect{}) {
			t.Errorf("%d locals: done: %t, %v", n, m.Done(), m.Effect())
		}
		m = started(t, api.Program{Locals: n, Writes: n}, nil, nil)
		looks(t, m, 0, nil, make([]int64, n))
		if !m.Done() || m.Step() || !same(m.Effect(), commits(0, nil, make([]api.Put, n)...)) {
			t.Errorf("%d locals, no instruction: done: %t, %v", n, m.Done(), m.Effect())
		}
	}
}

// 5.1, 5.5: the greatest program goes through all its instructions.
func TestGreatestProgram(t *testing.T) {
	p := api.Program{Args: 16, Reads: 16, Writes: 16, Locals: 16}
	want := commits(256, nil)
	var args []int64
	var reads []api.Cell
	var locals []int64
	for i := range int64(16) {
		p.Code = append(p.Code, code(api.IArg, i, api.IDup, 0, api.ISave, i, api.IGet, i, api.IAdd, 0, api.IDup, 0, api.IPut, i, api.IOut, 0)...)
		args, reads, locals = append(args, i*i), append(reads, api.Cell{Is: true, Value: 1000 * i}), append(locals, i*i)
		want.Out = append(want.Out, i*i+1000*i)
		want.Puts = append(want.Puts, api.Put{Kind: api.Set, Value: i*i + 1000*i})
	}
	p.Code = append(p.Code, slices.Repeat(code(api.IPush, 9, api.IPop, 0), 64)...)
	looks(t, does(t, p, args, reads, want), 256, nil, locals)
	if n, e := lang.Longest(p); n != 256 || e != api.OK {
		t.Errorf("Longest is %d, %d", n, e)
	}
}

// 5.2, 5.3: each of the ways to end, and where the machine stands then; a further Step does nothing.
func TestEnds(t *testing.T) {
	for _, c := range []struct {
		p     api.Program
		at    int
		stack []int64
		want  api.Effect
	}{
		{alone(api.IPush, 1), 1, []int64{1}, commits(1, nil)},
		{alone(api.IPush, 1, api.IStop, 0), 1, []int64{1}, commits(2, nil)},
		{alone(api.IPush, 1, api.IPush, 2, api.IStop, 0, api.IPop, 0), 2, []int64{1, 2}, commits(3, nil)},
		{alone(api.IPush, 1, api.IJump, 4, api.IStop, 0, api.IStop, 0), 4, []int64{1}, commits(2, nil)},
		{alone(api.IPush, 0, api.IZero, 3, api.IStop, 0), 3, nil, commits(2, nil)},
		{alone(api.IPush, 1, api.IZero, 3, api.IStop, 0), 2, nil, commits(3, nil)},
		{alone(api.IPush, 1, api.IZero, 2), 2, nil, commits(2, nil)},
		{alone(api.IPush, 7, api.IPush, 8, api.IAbort, 0, api.IStop, 0), 2, nil, fails(3, api.FaultAbort, 8, 0)},
		{alone(api.IPush, 8, api.IAbort, 0), 1, nil, fails(2, api.FaultAbort, 8, 0)},
		{alone(api.IPush, 7, api.IPush, 8, api.IPush, 0, api.IMod, 0, api.IPop, 0), 3, nil, fails(4, api.FaultDivide, 0, 0)},
		{alone(api.IPush, 7, api.IPush, 8, api.IPush, -1, api.IShr, 0), 3, nil, fails(4, api.FaultShift, 0, 0)},
		{alone(api.IPush, 7, api.IPush, 0, api.IGetX, 0), 2, nil, fails(3, api.FaultIndex, 0, 0)},
		{alone(api.IPush, 7, api.IPush, 0, api.IPush, 1, api.IPutX, 0, api.IStop, 0), 3, nil, fails(4, api.FaultIndex, 0, 0)},
		{api.Program{Code: append(code(api.IPush, 7), slices.Repeat(code(api.IPush, 1, api.IOut, 0), 17)...)}, 34, nil, fails(35, api.FaultOut, 0, 0)},
	} {
		m := does(t, c.p, nil, nil, c.want)
		for range 3 {
			looks(t, m, c.at, c.stack, nil)
			if m.Step() || !m.Done() || !same(m.Effect(), c.want) {
				t.Errorf("%v: a further step: %v", c.p, m.Effect())
			}
		}
	}
}

// 5.3, 5.4: a program that fails has done nothing, whatever it did ahead.
func TestNothingDone(t *testing.T) {
	for _, c := range []struct {
		last  []api.Instr
		fault api.Errno
		user  int64
	}{
		{code(api.IPush, math.MinInt64, api.IAbort, 0), api.FaultAbort, math.MinInt64},
		{code(api.IPush, 0, api.IAbort, 0), api.FaultAbort, 0},
		{code(api.IPush, 0, api.IDiv, 0), api.FaultDivide, 0},
		{code(api.IPush, 0, api.IMod, 0), api.FaultDivide, 0},
		{code(api.IPush, -3, api.IShl, 0), api.FaultShift, 0},
		{code(api.IPush, 2, api.IGetX, 0), api.FaultIndex, 0},
		{code(api.IPush, 3, api.IPush, 3, api.IPutX, 0), api.FaultIndex, 0},
		{slices.Repeat(code(api.IDup, 0, api.IOut, 0), 17), api.FaultOut, 0},
	} {
		p := api.Program{Reads: 2, Writes: 3, Locals: 2, Code: code(
			api.IPush, 4, api.ISave, 0, api.IPush, 5, api.ISave, 1, api.IPush, 6, api.IPut, 0, api.IDel, 1, api.IPush, 7, api.IOut, 0, api.IPush, 8, api.IPush, 9)}
		p.Code = append(p.Code, c.last...)
		at := len(p.Code) - 1
		steps := len(p.Code)
		if c.fault == api.FaultOut { // one output stands there already
			at, steps = at-2, steps-2
		}
		p.Code = append(p.Code, code(api.IPush, 1, api.IStop, 0)...)
		looks(t, does(t, p, nil, cells(1, 2), fails(steps, c.fault, c.user, 3)), at, nil, []int64{0, 0})
	}
}

// 5.4: as many outputs as may be, in their order; what each write was put to last.
func TestEffect(t *testing.T) {
	p := api.Program{Writes: 16}
	want := commits(0, nil, make([]api.Put, 16)...)
	for i := range int64(16) {
		p.Code = append(p.Code, code(api.IPush, 100-i, api.IOut, 0)...)
		want.Out = append(want.Out, 100-i)
	}
	for i := range int64(16) {
		switch i % 5 {
		case 0:
			p.Code = append(p.Code, code(api.IPush, i, api.IPut, i)...)
			want.Puts[i] = api.Put{Kind: api.Set, Value: i}
		case 1:
			p.Code = append(p.Code, code(api.IDel, i)...)
			want.Puts[i] = api.Put{Kind: api.Gone}
		case 2:
			p.Code = append(p.Code, code(api.IPush, 1, api.IPut, i, api.IPush, i, api.IPush, -i, api.IPutX, 0)...)
			want.Puts[i] = api.Put{Kind: api.Set, Value: -i}
		case 3:
			p.Code = append(p.Code, code(api.IPush, i, api.IPush, i, api.IPutX, 0, api.IDel, i)...)
			want.Puts[i] = api.Put{Kind: api.Gone}
		}
	}
	want.Steps = len(p.Code)
	does(t, p, nil, nil, want)
	p.Code = append(p.Code, code(api.IPush, 1, api.IOut, 0)...)
	does(t, p, nil, nil, fails(len(p.Code), api.FaultOut, 0, 16))
}

// 5.2 to 5.4: what is asked of a machine changes nothing in it.
func TestAskingChangesNothing(t *testing.T) {
	asked := started(t, move(), []int64{4}, cells(10, 5))
	left := started(t, move(), []int64{4}, cells(10, 5))
	for left.Step() {
		for range 2 {
			asked.At()
			asked.Done()
			asked.Stack()
			asked.Locals()
			asked.Effect()
		}
		if !asked.Step() {
			t.Error("it has ended too early")
		}
		looks(t, asked, left.At(), left.Stack(), left.Locals())
	}
	if asked.Step() || !same(asked.Effect(), left.Effect()) {
		t.Errorf("%v, want %v", asked.Effect(), left.Effect())
	}
}
