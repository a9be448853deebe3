package tidy_test

import (
	"math/rand"
	"slices"

	"prelude/api"
	"prelude/lang"
)

// maker makes sound programs by chance, in which there is much that is rough.
type maker struct {
	*rand.Rand
}

func newMaker(seed int64) *maker { return &maker{rand.New(rand.NewSource(seed))} }

// number is mostly one by which something is rough.
func (m *maker) number() int64 {
	if m.Intn(3) > 0 {
		return int64(m.Intn(3))
	}
	return numbers[m.Intn(len(numbers))]
}

// instr is an instruction that can stand where so many values lie, but no jump.
func (m *maker) instr(p api.Program, depth int) api.Instr {
	for {
		in := api.Instr{Op: m.Intn(api.NumOps)}
		if m.Intn(3) == 0 {
			in.Op = []int{api.IPush, api.IPush, api.INeg, api.IPop, api.IPutX, api.IPutX, api.IGetX}[m.Intn(7)]
		}
		k := kindOf(in.Op)
		high := depth - k.takes + k.leaves
		if k.takes > depth || high > api.MaxStack || high > 4 && m.Intn(high) > 3 {
			continue
		}
		room := 0
		switch in.Op {
		case api.IStop, api.IAbort:
			if m.Intn(8) > 0 {
				continue
			}
		case api.IJump, api.IZero:
			continue
		case api.IPush:
			in.A = m.number()
			return in
		case api.ILoad, api.ISave:
			room = p.Locals
		case api.IArg:
			room = p.Args
		case api.IGet, api.IHas:
			room = p.Reads
		case api.IPut, api.IDel:
			room = p.Writes
		}
		if room > 0 {
			in.A = int64(m.Intn(room))
		} else if lang.Wants(in.Op) {
			continue
		}
		return in
	}
}

// straight is a program without jumps.
func (m *maker) straight(size int) api.Program {
	p := api.Program{Args: m.Intn(4), Reads: m.Intn(4), Writes: m.Intn(4), Locals: m.Intn(3)}
	depth := 0
	for range size {
		in := m.instr(p, depth)
		p.Code = append(p.Code, in)
		depth += kindOf(in.Op).leaves - kindOf(in.Op).takes
	}
	return p
}

// inserted is a program with some more instructions ahead of a place. What goes to that place goes to them, or by chance not.
func (m *maker) inserted(p api.Program, at int, more ...api.Instr) api.Program {
	q := p
	q.Code = slices.Concat(p.Code[:at], more, p.Code[at:])
	behind := m.Intn(2) == 0
	for i := range q.Code {
		in := &q.Code[i]
		if at <= i && i < at+len(more) || in.Op != api.IJump && in.Op != api.IZero {
			continue
		}
		if in.A > int64(at) || in.A == int64(at) && behind {
			in.A += int64(len(more))
		}
	}
	return q
}

// jumping is a program with one more jump or zero, or the program, where it would not be sound.
func (m *maker) jumping(p api.Program) api.Program {
	from := m.Intn(len(p.Code) + 1)
	// Mostly not far, so that jumps lie ahead of one another and not only within.
	to := from + m.Intn(min(len(p.Code)-from+1, 1+m.Intn(12)))
	var more []api.Instr
	switch m.Intn(5) {
	case 0:
		more = []api.Instr{{Op: api.IJump}}
	case 1:
		more = []api.Instr{{Op: api.IPush, A: m.number()}, {Op: api.IZero}}
	case 2:
		more = []api.Instr{{Op: api.IStop}, {Op: api.IJump}}
	default:
		if p.Args == 0 {
			return p
		}
		more = []api.Instr{{Op: api.IArg, A: int64(m.Intn(p.Args))}, {Op: api.IZero}}
	}
	more[len(more)-1].A = int64(to + len(more))
	q := m.inserted(p, from, more...)
	if lang.Verify(q) != api.OK {
		return p
	}
	return q
}

// program is any sound program of about that size, with up to so many jumps.
func (m *maker) program(size, most int) api.Program {
	p := m.straight(size)
	if m.Intn(3) == 0 {
		p.Code = append(p.Code, api.Instr{Op: api.IStop})
	}
	for range most {
		p = m.jumping(p)
	}
	return p
}

// calls is some calls of a program.
func (m *maker) calls(p api.Program, times int) []call {
	return calls(p, times, func(int) int64 { return m.number() })
}
