package tidy

import (
	"prelude/api"
	"prelude/lang"
)

// view is a program that was looked over: which of its places are reached, at which depths, and which are landings.
type view struct {
	api.Program
	depths   []int
	landings map[int]struct{}
}

// lookOver is the view of a sound program.
func lookOver(p api.Program) (*view, api.Errno) {
	depths, e := lang.Depths(p)
	if e != api.OK {
		return nil, e
	}
	v := &view{p, depths, map[int]struct{}{}}
	for at, in := range p.Code {
		if jumps(in) && v.reached(at) {
			v.landings[int(in.A)] = struct{}{}
		}
	}
	return v, api.OK
}

// reached tells whether a way leads to a place.
func (v *view) reached(at int) bool { return v.depths[at] >= 0 }

// together is the instructions from a place on that may belong to one spot, at most so many: none but the first is at a landing.
func (v *view) together(at, most int) []api.Instr {
	end := at + 1
	for ; end < min(at+most, len(v.Code)); end++ {
		if _, lands := v.landings[end]; lands {
			break
		}
	}
	return v.Code[at:end]
}

// jumps tells whether an instruction's A is a place.
func jumps(in api.Instr) bool { return in.Op == api.IJump || in.Op == api.IZero }
