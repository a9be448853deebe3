package lang

import (
	"prelude/api"
	"prelude/codec"
)

// An instruction's byte: its Op in the lowest six bits, whether an A follows in the next, and the highest one never set.
const (
	opBits  = 1<<6 - 1
	withA   = 1 << 6
	highest = 1 << 7
)

// Put writes a program.
func Put(w *codec.Writer, p api.Program) api.Errno {
	if !withinLimits(p) {
		return api.ErrProgram
	}
	for _, in := range p.Code {
		if !isOp(in.Op) {
			return api.ErrOp
		}
	}
	for _, n := range [...]int{p.Args, p.Reads, p.Writes, p.Locals, len(p.Code)} {
		w.Uint(uint64(n))
	}
	for _, in := range p.Code {
		putInstr(w, in)
	}
	return api.OK
}

// Get reads a program; what goes wrong is the Reader's error.
func Get(r *codec.Reader) api.Program {
	p := api.Program{
		Args:   int(r.Upto(api.MaxArgs)),
		Reads:  int(r.Upto(api.MaxReads)),
		Writes: int(r.Upto(api.MaxWrites)),
		Locals: int(r.Upto(api.MaxLocals)),
	}
	for range r.Upto(api.MaxCode) {
		p.Code = append(p.Code, getInstr(r))
	}
	if r.Err() != api.OK {
		return api.Program{}
	}
	return p
}

// putInstr writes an instruction.
func putInstr(w *codec.Writer, in api.Instr) {
	if in.A == 0 {
		w.Byte(byte(in.Op))
		return
	}
	w.Byte(byte(in.Op) | withA)
	w.Int(in.A)
}

// getInstr reads an instruction.
func getInstr(r *codec.Reader) api.Instr {
	b := r.Byte()
	in := api.Instr{Op: int(b & opBits)}
	if !isOp(in.Op) || b&highest != 0 {
		r.Fail(api.ErrOp)
	}
	if b&withA != 0 {
		in.A = r.Int()
		if in.A == 0 {
			r.Fail(api.ErrForm)
		}
	}
	return in
}
