package lang

import (
	"slices"

	"prelude/api"
)

// unreached stands for the depth of a place to which no way leads.
const unreached = -1

// Verify looks a program over.
func Verify(p api.Program) api.Errno {
	_, e := Depths(p)
	return e
}

// Depths is how many values lie on the stack ahead of each place, -1 where no way leads; the last one is the end.
func Depths(p api.Program) ([]int, api.Errno) {
	if !withinLimits(p) {
		return nil, api.ErrProgram
	}
	for at := range p.Code {
		if e := look(p, at); e != api.OK {
			return nil, e
		}
	}
	return search(p.Code)
}

// Longest is how many instructions the longest way has.
func Longest(p api.Program) (int, api.Errno) {
	if e := Verify(p); e != api.OK {
		return 0, e
	}
	most := make([]int, len(p.Code)+1)
	// From the back on, as every way leads forward: so what comes behind an instruction is known when it is come to.
	for at, in := range slices.Backward(p.Code) {
		next, n := onward(in, at)
		for _, to := range next[:n] {
			most[at] = max(most[at], most[to])
		}
		most[at]++
	}
	return most[0], api.OK
}

// withinLimits tells whether a program's numbers are what they may be.
func withinLimits(p api.Program) bool {
	return 0 <= p.Args && p.Args <= api.MaxArgs &&
		0 <= p.Reads && p.Reads <= api.MaxReads &&
		0 <= p.Writes && p.Writes <= api.MaxWrites &&
		0 <= p.Locals && p.Locals <= api.MaxLocals &&
		len(p.Code) <= api.MaxCode
}

// look looks one instruction over, whether it is reached or not.
func look(p api.Program, at int) api.Errno {
	in := p.Code[at]
	if !isOp(in.Op) {
		return api.ErrOp
	}
	isJump := in.Op == api.IJump || in.Op == api.IZero
	if isJump && (in.A <= int64(at) || in.A > int64(len(p.Code))) {
		return api.ErrJump
	}
	if !fits(p, in) {
		return api.ErrArg
	}
	return api.OK
}

// search is the depths of instructions that were looked over. As every way leads forward, going through the places once finds all of them.
func search(code []api.Instr) ([]int, api.Errno) {
	depths := slices.Repeat([]int{unreached}, len(code)+1)
	depths[0] = 0
	e := api.OK
places:
	for at, in := range code {
		if depths[at] == unreached {
			continue
		}
		left := depths[at] - takes(in.Op)
		depth := left + leaves(in.Op)
		if left < 0 || depth > api.MaxStack {
			e = api.ErrStack
			break places
		}
		next, n := onward(in, at)
		for _, to := range next[:n] {
			if depths[to] != unreached && depths[to] != depth {
				e = api.ErrStack
				break places
			}
			depths[to] = depth
		}
	}
	if e != api.OK {
		return nil, e
	}
	return depths, api.OK
}
