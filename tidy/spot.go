package tidy

import (
	"slices"

	"prelude/api"
	"prelude/vm"
)

// spot is how many instructions a rough spot has, and which ones do the same in their place.
type spot struct {
	size int
	now  []api.Instr
}

// roughAt is the rough spot that begins at a place, if one does.
func (v *view) roughAt(at int) (spot, bool) {
	return v.rule(at)(at)
}

// rule is what is done to a spot, by what it begins with.
func (v *view) rule(at int) func(at int) (spot, bool) {
	if !v.reached(at) {
		return v.dead
	}
	switch v.Code[at].Op {
	case api.IPush:
		return v.push
	case api.IDup, api.ILoad, api.IArg, api.IGet, api.IHas:
		return v.lay
	case api.INeg:
		return v.neg
	case api.IJump:
		return v.jump
	case api.IZero:
		return v.farther
	case api.IStop:
		return v.stop
	}
	return v.fine
}

// dead is R1: whatever the instruction is.
func (v *view) dead(int) (spot, bool) { return gone(1) }

// fine is what no rough spot begins with.
func (v *view) fine(int) (spot, bool) { return none() }

// jump is R2 and R3.
func (v *view) jump(at int) (spot, bool) {
	if v.Code[at].A == int64(at)+1 {
		return gone(1)
	}
	return v.farther(at)
}

// farther is R3: what goes to an IJump may as well go where that goes.
func (v *view) farther(at int) (spot, bool) {
	in := v.Code[at]
	if in.A == int64(len(v.Code)) || v.Code[in.A].Op != api.IJump {
		return none()
	}
	return better(1, api.Instr{Op: in.Op, A: v.Code[in.A].A})
}

// stop is R4: behind the last instruction the program ends anyway.
func (v *view) stop(at int) (spot, bool) {
	end := len(v.Code)
	if at != end-1 || v.reached(end) && v.depths[end] != v.depths[at] {
		return none()
	}
	return gone(1)
}

// lay is R5, where it doesn't begin with an IPush.
func (v *view) lay(at int) (spot, bool) {
	t := v.together(at, 2)
	if len(t) < 2 || t[1].Op != api.IPop {
		return none()
	}
	return gone(2)
}

// neg is R10.
func (v *view) neg(at int) (spot, bool) {
	t := v.together(at, 2)
	if len(t) < 2 || t[1].Op != api.INeg {
		return none()
	}
	return gone(2)
}

// push is R5 to R9, R11 and R12.
func (v *view) push(at int) (spot, bool) {
	t := v.together(at, 3)
	if len(t) < 2 {
		return none()
	}
	n, op := t[0].A, t[1].Op
	switch {
	case op == api.IPush:
		return v.pushTwo(t)
	case op == api.INeg || op == api.INot:
		return reckoned(t[:2])
	case op == api.IZero && n == 0:
		return better(2, api.Instr{Op: api.IJump, A: t[1].A})
	case op == api.IPop || op == api.IZero || idle(op, n):
		return gone(2)
	case op == api.IGetX && 0 <= n && n < int64(v.Reads):
		return better(2, api.Instr{Op: api.IGet, A: n})
	}
	return none()
}

// pushTwo is R6 and R12.
func (v *view) pushTwo(t []api.Instr) (spot, bool) {
	if len(t) < 3 {
		return none()
	}
	n, op := t[0].A, t[2].Op
	switch {
	case pairs(op):
		return reckoned(t)
	case op == api.IPutX && 0 <= n && n < int64(v.Writes):
		return better(3, t[1], api.Instr{Op: api.IPut, A: n})
	}
	return none()
}

// reckoned is the number that instructions leave, unless they fail. The machine itself reckons it: so its rules stand in one place.
func reckoned(t []api.Instr) (spot, bool) {
	code := append(slices.Clone(t), api.Instr{Op: api.IOut})
	done, e := vm.Run(api.Program{Code: code}, nil, nil)
	if e != api.OK || !done.Commit {
		return none()
	}
	return better(len(t), api.Instr{Op: api.IPush, A: done.Out[0]})
}

// pairs tells whether an instruction takes two values and leaves one.
func pairs(op int) bool {
	return api.IAdd <= op && op <= api.IShr || api.IEq <= op && op <= api.IMax
}

// idle tells whether an instruction leaves what lies below n as it is.
func idle(op int, n int64) bool {
	switch op {
	case api.IAdd, api.ISub, api.IOr, api.IXor, api.IShl, api.IShr:
		return n == 0
	case api.IMul, api.IDiv:
		return n == 1
	}
	return false
}

// The answers of a rule: instructions of which none is needed, those that have a better one, or no rough spot.

func gone(size int) (spot, bool) { return spot{size: size}, true }

func better(size int, now ...api.Instr) (spot, bool) { return spot{size, now}, true }

func none() (spot, bool) { return spot{}, false }
