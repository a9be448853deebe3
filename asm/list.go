package asm

import (
	"prelude/api"
	"prelude/codec"
	"prelude/lang"
)

// listProc is the lines of a procedure.
func listProc(p api.Proc) []string {
	code := p.Program.Code
	isLanding := landings(code)
	lines := []string{firstLine(p)}
	for at, in := range code {
		if isLanding[at] {
			lines = append(lines, labelOf(int64(at))+":")
		}
		lines = append(lines, "  "+instruction(in))
	}
	if isLanding[len(code)] {
		lines = append(lines, labelOf(int64(len(code)))+":")
	}
	return append(lines, endWord)
}

// firstLine is the first line of a procedure.
func firstLine(p api.Proc) string {
	text := procWord + " " + p.Name
	for i, n := range [4]int{p.Program.Args, p.Program.Reads, p.Program.Writes, p.Program.Locals} {
		text += " " + numberWords[i] + " " + codec.Digits(int64(n))
	}
	return text
}

// instruction is an instruction's name and its argument, if it has one.
func instruction(in api.Instr) string {
	name := lang.Spell(in.Op)
	switch {
	case isJump(in.Op):
		return name + " " + labelOf(in.A)
	case lang.Wants(in.Op):
		return name + " " + codec.Digits(in.A)
	}
	return name
}

// landings tells of each place of a sound program, the end being the last one, whether a jump goes there.
func landings(code []api.Instr) []bool {
	is := make([]bool, len(code)+1)
	for _, in := range code {
		if isJump(in.Op) {
			is[in.A] = true
		}
	}
	return is
}

// labelOf is the label of a place.
func labelOf(at int64) string { return "L" + codec.Digits(at) }
