package vm_test

import (
	"math/rand"
	"slices"
	"testing"

	"prelude/api"
	"prelude/lang"
	"prelude/vm"
)

// state is what can be seen of a machine between two steps, and what it will have done.
type state struct {
	at            int
	done          bool
	stack, locals []int64
	effect        api.Effect // as if it had ended
}

// copied is the state in new memory.
func (s state) copied() state {
	s.stack, s.locals = slices.Clone(s.stack), slices.Clone(s.locals)
	s.effect.Out, s.effect.Puts = slices.Clone(s.effect.Out), slices.Clone(s.effect.Puts)
	return s
}

// history is all states of a call, from the first to the last one: each is made whole from the one ahead of it, by the chapter's table.
func history(p api.Program, args []int64, reads []api.Cell) []state {
	all := []state{{locals: make([]int64, p.Locals), done: len(p.Code) == 0, effect: commits(0, nil, make([]api.Put, p.Writes)...)}}
	for last := all[0]; !last.done; last = all[len(all)-1] {
		all = append(all, after(p, args, reads, last.copied()))
	}
	return all
}

// after is the state behind one more instruction.
func after(p api.Program, args []int64, reads []api.Cell, s state) state {
	in := p.Code[s.at]
	fault := api.OK
	low := len(s.stack) - takes[in.Op]
	took := s.stack[low:]
	s.effect.Steps++
	next := s.at + 1
	var lays []int64
	switch in.Op {
	case api.IStop:
		next, s.done = s.at, true
	case api.IPush:
		lays = []int64{in.A}
	case api.IDup:
		lays = []int64{took[0], took[0]}
	case api.ILoad:
		lays = []int64{s.locals[in.A]}
	case api.ISave:
		s.locals[in.A] = took[0]
	case api.IArg:
		lays = []int64{args[in.A]}
	case api.IGet, api.IGetX:
		i := append(slices.Clone(took), in.A)[0]
		if i < 0 || i >= int64(p.Reads) {
			fault = api.FaultIndex
		} else {
			lays = []int64{reads[i].Value * holds(reads[i].Is)}
		}
	case api.IHas:
		lays = []int64{holds(reads[in.A].Is)}
	case api.INeg:
		lays = []int64{^took[0] + 1}
	case api.INot:
		lays = []int64{holds(took[0] == 0)}
	case api.IJump:
		next = int(in.A)
	case api.IZero:
		if took[0] == 0 {
			next = int(in.A)
		}
	case api.IPut:
		s.effect.Puts[in.A] = api.Put{Kind: api.Set, Value: took[0]}
	case api.IDel:
		s.effect.Puts[in.A] = api.Put{Kind: api.Gone}
	case api.IPutX:
		if took[0] < 0 || took[0] >= int64(p.Writes) {
			fault = api.FaultIndex
		} else {
			s.effect.Puts[took[0]] = api.Put{Kind: api.Set, Value: took[1]}
		}
	case api.IOut:
		s.effect.Out = append(s.effect.Out, took[0])
		if len(s.effect.Out) > 16 {
			fault = api.FaultOut
		}
	case api.IAbort:
		fault = api.FaultAbort
		s.effect.User = took[0]
	case api.IPop:
	default:
		var v int64
		v, fault = reckoned(in.Op, took[0], took[1])
		lays = []int64{v}
	}
	if fault != api.OK {
		return state{at: s.at, done: true, locals: make([]int64, p.Locals), effect: fails(s.effect.Steps, fault, s.effect.User, p.Writes)}
	}
	s.stack = slices.Concat(s.stack[:low], lays)
	s.at = next
	s.done = s.done || s.at == len(p.Code)
	return s
}

// takes is how many values each instruction takes, leaves how many it lays then, said once more.
var (
	takes = [api.NumOps]int{
		0, 0, 1, 1, 0, 1, 0, 0, 0, 1, 2, 2, 2, 2, 2, 2, 2, 2, 2, 2, 1, 1, 2, 2, 2, 2, 2, 2, 2, 2, 0, 1, 1, 0, 2, 1, 1,
	}
	leaves = [api.NumOps]int{
		0, 1, 0, 2, 1, 0, 1, 1, 1, 1, 1, 1, 1, 1, 1, 1, 1, 1, 1, 1, 1, 1, 1, 1, 1, 1, 1, 1, 1, 1, 0, 0, 0, 0, 0, 0, 0,
	}
)

// builder makes a sound program: it knows the depth at which it stands, and which jumps have no place yet.
type builder struct {
	r     *rand.Rand
	p     api.Program
	depth int
	open  []jump
}

// jump is a jump without a place yet, and the depth behind it.
type jump struct{ at, depth int }

// add adds an instruction.
func (b *builder) add(op int, a int64) {
	b.p.Code = append(b.p.Code, api.Instr{Op: op, A: a})
	b.depth += leaves[op] - takes[op]
}

// anyA is an A that the instruction may have, if it may have one.
func (b *builder) anyA(op int) (int64, bool) {
	room := 1
	switch op {
	case api.IPush:
		if b.r.Intn(3) == 0 {
			return edges[b.r.Intn(len(edges))], true
		}
		return b.r.Int63n(20) - 4, true
	case api.ILoad, api.ISave:
		room = b.p.Locals
	case api.IArg:
		room = b.p.Args
	case api.IGet, api.IHas:
		room = b.p.Reads
	case api.IPut, api.IDel:
		room = b.p.Writes
	}
	if room == 0 {
		return 0, false
	}
	return b.r.Int63n(int64(room)), true
}

// land lets a jump that has no place yet go to the next place, at its own depth.
func (b *builder) land() {
	j := b.open[len(b.open)-1]
	b.open = b.open[:len(b.open)-1]
	for b.depth < j.depth {
		b.add(api.IPush, b.r.Int63n(5))
	}
	for b.depth > j.depth {
		b.add(api.IPop, 0)
	}
	b.p.Code[j.at].A = int64(len(b.p.Code))
}

// more adds an instruction that can stand there; true, if the place behind it is reached by a landing alone.
func (b *builder) more() bool {
	op := b.r.Intn(api.NumOps)
	a, ok := b.anyA(op)
	if b.depth == api.MaxStack {
		b.add(api.IPop, 0)
		return false
	}
	if !ok || takes[op] > b.depth {
		b.add(api.IPush, b.r.Int63n(4))
		return false
	}
	last := op == api.IStop || op == api.IAbort
	if last && len(b.open) == 0 || op == api.IJump && b.r.Intn(2) == 0 {
		return false
	}
	b.add(op, a)
	if op == api.IZero || op == api.IJump {
		b.open = append(b.open, jump{len(b.p.Code) - 1, b.depth})
	}
	return last || op == api.IJump
}

// soundProgram is some sound program.
func soundProgram(r *rand.Rand) api.Program {
	b := builder{r: r, p: api.Program{Args: r.Intn(4), Reads: r.Intn(4), Writes: r.Intn(4), Locals: r.Intn(4)}}
	for range r.Intn(60) {
		if b.more() {
			b.depth = b.open[len(b.open)-1].depth // nothing else leads there
			b.land()
		} else if len(b.open) > 0 && r.Intn(5) == 0 {
			b.land()
		}
	}
	for len(b.open) > 0 {
		b.land()
	}
	return b.p
}

// 5.1 to 5.5: sound programs of all kinds, each state of theirs against the table.
func TestAnyPrograms(t *testing.T) {
	r := rand.New(rand.NewSource(5))
	var ran [api.NumOps]int
	var ends [api.FaultOut + 1]int
	for range 20000 {
		p := soundProgram(r)
		longest, e := lang.Longest(p)
		if e != api.OK {
			if len(p.Code) <= api.MaxCode {
				t.Fatalf("%v is not sound: %d", p, e)
			}
			continue
		}
		args, reads := make([]int64, p.Args), make([]api.Cell, p.Reads)
		for i := range args {
			args[i] = edges[r.Intn(len(edges))]
		}
		for i := range reads {
			reads[i] = api.Cell{Is: r.Intn(3) > 0, Value: edges[r.Intn(len(edges))]}
		}
		all := history(p, args, reads)
		last := all[len(all)-1]
		ends[last.effect.Code]++
		if last.effect.Steps > longest {
			t.Fatalf("%v: %d steps, the longest way has %d", p, last.effect.Steps, longest)
		}
		m := started(t, p, args, reads)
		for n, s := range all {
			looks(t, m, s.at, s.stack, s.locals)
			want := s.effect
			if !s.done {
				want = api.Effect{}
				ran[p.Code[s.at].Op]++
			}
			if m.Done() != s.done || !same(m.Effect(), want) || m.Step() == s.done {
				t.Fatalf("%v, %v, %v: behind %d steps it is done: %t, %v, want %v", p, args, reads, n, m.Done(), m.Effect(), s)
			}
		}
		if a, e := vm.Run(p, args, reads); e != api.OK || !same(a, last.effect) {
			t.Fatalf("Run of %v, %v, %v is %v, %d, want %v", p, args, reads, a, e, last.effect)
		}
	}
	for op, n := range ran {
		if n < 100 {
			t.Errorf("%s was run %d times only", lang.Spell(op), n)
		}
	}
	for _, code := range []api.Errno{api.OK, api.FaultAbort, api.FaultDivide, api.FaultShift, api.FaultIndex} {
		if ends[code] < 100 {
			t.Errorf("the code %d came %d times only", code, ends[code])
		}
	}
}
