package lang

import "prelude/api"

// takes is how many values an instruction takes from the stack.
func takes(op int) int {
	n := 0
	switch op {
	case api.IAdd, api.ISub, api.IMul, api.IDiv, api.IMod, api.IAnd, api.IOr, api.IXor, api.IShl, api.IShr,
		api.IEq, api.INe, api.ILt, api.ILe, api.IGt, api.IGe, api.IMin, api.IMax, api.IPutX:
		n++
		fallthrough
	case api.IPop, api.IDup, api.ISave, api.IGetX, api.INeg, api.INot, api.IZero, api.IPut, api.IOut, api.IAbort:
		n++
	}
	return n
}

// leaves is how many values an instruction lays on the stack, once it has taken its own.
func leaves(op int) int {
	n := 1
	switch op {
	case api.IStop, api.IPop, api.ISave, api.IJump, api.IZero, api.IPut, api.IDel, api.IPutX, api.IOut, api.IAbort:
		n = 0
	case api.IDup:
		n = 2
	}
	return n
}

// onward is the places to which an instruction goes: the first ones of the two, as many as the number says.
func onward(in api.Instr, at int) ([2]int, int) {
	var next [2]int
	n := 0
	switch in.Op {
	case api.IStop, api.IAbort:
	case api.IZero:
		next[n] = at + 1
		n++
		fallthrough
	case api.IJump:
		next[n] = int(in.A)
		n++
	default:
		next[n] = at + 1
		n++
	}
	return next, n
}

// fits tells whether an instruction's A can stand there; that of a jump, where it is a place, can.
func fits(p api.Program, in api.Instr) bool {
	room := 1
	switch in.Op {
	case api.IPush, api.IJump, api.IZero:
		return true
	case api.ILoad, api.ISave:
		room = p.Locals
	case api.IArg:
		room = p.Args
	case api.IGet, api.IHas:
		room = p.Reads
	case api.IPut, api.IDel:
		room = p.Writes
	}
	return 0 <= in.A && in.A < int64(room)
}
