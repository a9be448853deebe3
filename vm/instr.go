package vm

import "prelude/api"

// zero is the place to which an IZero goes.
func (m *Machine) zero(in api.Instr) int {
	if m.pop() == 0 {
		return int(in.A)
	}
	return m.at + 1
}

// do does an instruction that goes on to the next place, or fails.
func (m *Machine) do(in api.Instr) api.Errno {
	switch in.Op {
	case api.IPush:
		m.push(in.A)
	case api.IPop:
		m.pop()
	case api.IDup:
		x := m.pop()
		m.push(x)
		m.push(x)
	case api.ILoad:
		m.push(m.locals[in.A])
	case api.ISave:
		m.locals[in.A] = m.pop()
	case api.IArg:
		m.push(m.args[in.A])
	case api.IGet:
		return m.get(in.A)
	case api.IHas:
		m.push(truth(m.reads[in.A].Is))
	case api.IGetX:
		return m.get(m.pop())
	case api.INeg:
		m.push(-m.pop())
	case api.INot:
		m.push(truth(m.pop() == 0))
	case api.IPut:
		return m.put(in.A, api.Put{Kind: api.Set, Value: m.pop()})
	case api.IDel:
		return m.put(in.A, api.Put{Kind: api.Gone})
	case api.IPutX:
		x := m.pop()
		return m.put(m.pop(), api.Put{Kind: api.Set, Value: x})
	case api.IOut:
		return m.tell(m.pop())
	case api.IAbort:
		m.user = m.pop()
		return api.FaultAbort
	default:
		return m.pair(in.Op)
	}
	return api.OK
}

// pair does an instruction with two values.
func (m *Machine) pair(op int) api.Errno {
	y := m.pop()
	x := m.pop()
	v, fault := pairs()[op](x, y)
	if fault != api.OK {
		return fault
	}
	m.push(v)
	return api.OK
}

// get lays the value of the read i.
func (m *Machine) get(i int64) api.Errno {
	if i < 0 || i >= int64(len(m.reads)) {
		return api.FaultIndex
	}
	// A cell that came in with nothing in it may hold any Value.
	if c := m.reads[i]; c.Is {
		m.push(c.Value)
	} else {
		m.push(0)
	}
	return api.OK
}

// put is what becomes of the write i.
func (m *Machine) put(i int64, p api.Put) api.Errno {
	if i < 0 || i >= int64(len(m.puts)) {
		return api.FaultIndex
	}
	m.puts[i] = p
	return api.OK
}

// tell makes x one more output.
func (m *Machine) tell(x int64) api.Errno {
	if len(m.out) == api.MaxOut {
		return api.FaultOut
	}
	m.out = append(m.out, x)
	return api.OK
}

// push lays a value on the stack.
func (m *Machine) push(x int64) { m.stack = append(m.stack, x) }

// pop takes the topmost value.
func (m *Machine) pop() int64 {
	top := len(m.stack) - 1
	x := m.stack[top]
	m.stack = m.stack[:top]
	return x
}

// truth is 1 for what holds, and 0 for what doesn't.
func truth(holds bool) int64 {
	if holds {
		return 1
	}
	return 0
}
