package compile

import (
	"slices"

	"prelude/api"
)

// code is a program's instructions. Of a code that gets too long there is one more than may be, and no further ones.
type code struct {
	list []api.Instr
}

// full tells whether the code is too long.
func (c *code) full() bool { return len(c.list) > api.MaxCode }

// add writes an instruction.
func (c *code) add(op int, a int64) {
	if !c.full() {
		c.list = append(c.list, api.Instr{Op: op, A: a})
	}
}

// ahead writes a jump to a place that is not known yet: it is the one that comes next when the closure is called.
func (c *code) ahead(op int) func() {
	at := len(c.list)
	c.add(op, 0)
	return func() {
		if at < len(c.list) {
			c.list[at].A = int64(len(c.list))
		}
	}
}

// repeat makes what was written from a place on stand there so many times. Its jumps stay within it, and so move along.
func (c *code) repeat(from int, times int64) {
	once := slices.Clone(c.list[from:])
	c.list = c.list[:from]
	for range times {
		moved := int64(len(c.list) - from)
		for _, in := range once {
			if in.Op == api.IJump || in.Op == api.IZero {
				in.A += moved
			}
			c.add(in.Op, in.A)
		}
	}
}
