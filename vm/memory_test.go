package vm_test

import (
	"slices"
	"testing"

	"prelude/api"
	"prelude/vm"
)

// marked is a list with spare room behind its end, the whole of it, and a function that tells whether both are still as they were.
func marked[E comparable](list []E, mark E) ([]E, []E, func() bool) {
	whole := slices.Concat(list, slices.Repeat([]E{mark}, 8))
	before := slices.Clone(whole)
	return whole[:len(list)], whole, func() bool { return slices.Equal(whole, before) }
}

// spoil writes over a list, and over the spare room behind its end.
func spoil[E any](list []E, with E) {
	list = list[:cap(list)]
	for i := range list {
		list[i] = with
	}
}

// R4: what is handed in is not changed, and not kept.
func TestLeavesInput(t *testing.T) {
	p := move()
	code, wholeCode, codeKept := marked(p.Code, api.Instr{Op: -7, A: 7})
	args, wholeArgs, argsKept := marked([]int64{4}, 77)
	reads, wholeReads, readsKept := marked([]api.Cell{{Is: true, Value: 10}, {Value: 5}}, api.Cell{Is: true, Value: 99})
	p.Code = code
	want := commits(12, nil, api.Put{Kind: api.Set, Value: 6}, api.Put{Kind: api.Set, Value: 4})
	does(t, p, args, reads, want)
	if !codeKept() || !argsKept() || !readsKept() {
		t.Errorf("%v, %v, %v: what was handed in was changed", wholeCode, wholeArgs, wholeReads)
	}
	m := started(t, p, args, reads)
	spoil(wholeCode, api.Instr{Op: api.IStop})
	spoil(wholeArgs, 1)
	spoil(wholeReads, api.Cell{})
	for m.Step() {
	}
	if !same(m.Effect(), want) {
		t.Errorf("what was handed in was kept: %v", m.Effect())
	}
}

// R4: what is handed out is new memory.
func TestNewMemory(t *testing.T) {
	p := api.Program{Writes: 2, Locals: 2, Code: code(
		api.IPush, 1, api.ISave, 0, api.IPush, 2, api.ISave, 1, api.IPush, 3, api.IPut, 0, api.IPush, 4, api.IOut, 0, api.IPush, 5, api.IPush, 6)}
	m := started(t, p, nil, nil)
	n := 0
	for {
		stack, locals, effect := m.Stack(), m.Locals(), m.Effect()
		lasting := slices.Clone(stack)
		for _, list := range [][]int64{m.Stack(), m.Locals(), m.Effect().Out} {
			spoil(list, -1)
		}
		spoil(m.Effect().Puts, api.Put{Kind: api.Gone})
		if !slices.Equal(m.Stack(), stack) || !slices.Equal(m.Locals(), locals) || !same(m.Effect(), effect) {
			t.Errorf("behind %d steps: the answers are the machine's own memory", n)
		}
		if !m.Step() {
			break
		}
		n++
		if !slices.Equal(stack, lasting) {
			t.Errorf("behind %d steps: what was answered ahead has changed", n)
		}
	}
	looks(t, m, 10, []int64{5, 6}, []int64{1, 2})
	if !same(m.Effect(), commits(10, []int64{4}, api.Put{Kind: api.Set, Value: 3}, api.Put{})) {
		t.Errorf("%v", m.Effect())
	}
}

// R6: two machines of one program know nothing of one another.
func TestTwoMachines(t *testing.T) {
	a := started(t, move(), []int64{4}, cells(10, 5))
	b := started(t, move(), []int64{20}, cells(6, 9))
	for a.Step() {
		b.Step()
	}
	want, _ := vm.Run(move(), []int64{4}, cells(10, 5))
	if !same(a.Effect(), want) || !same(b.Effect(), fails(6, api.FaultAbort, 1, 2)) {
		t.Errorf("%v, %v", a.Effect(), b.Effect())
	}
}
