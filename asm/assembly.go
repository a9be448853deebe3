package asm

import (
	"strings"

	"prelude/api"
	"prelude/lang"
)

// assembly is what was read of a text so far.
type assembly struct {
	line   int // the number of the line that is read
	lib    []api.Proc
	names  []api.Spot     // where the procedures' names stand
	isOpen bool           // whether the last procedure has not ended yet
	begun  api.Spot       // where its word proc stands
	labels map[string]int // the places of its labels
	jumps  []jump
}

// jump is a jump or zero of the procedure that is read: its place in the program, the label that it names, and where that stands.
type jump struct {
	from  int
	label string
	at    api.Spot
}

// read reads the line of a number.
func (a *assembly) read(number int, words []word) error {
	if len(words) == 0 {
		return nil
	}
	a.line = number
	r := reader{words: words}
	if a.isOpen {
		return a.readInside(&r)
	}
	return a.readFirst(&r)
}

// readFirst reads the first line of a procedure.
func (a *assembly) readFirst(r *reader) error {
	a.begun = a.spot(r.words[0])
	if err := r.must(procWord); err != nil {
		return err
	}
	name, err := r.next()
	if err != nil {
		return err
	}
	var numbers [4]int
	for i, text := range numberWords {
		if err := r.must(text); err != nil {
			return err
		}
		n, err := r.number()
		if err != nil {
			return err
		}
		numbers[i] = int(n)
	}
	a.names = append(a.names, a.spot(name))
	a.lib = append(a.lib, api.Proc{
		// A piece of the text would share its memory.
		Name:    strings.Clone(name.text),
		Program: api.Program{Args: numbers[0], Reads: numbers[1], Writes: numbers[2], Locals: numbers[3]},
	})
	a.isOpen, a.labels, a.jumps = true, map[string]int{}, nil
	return r.end()
}

// readInside reads a line of a procedure that has begun.
func (a *assembly) readInside(r *reader) error {
	first, err := r.next()
	if err != nil {
		return err
	}
	if first.text == endWord {
		if err := r.end(); err != nil {
			return err
		}
		return a.endProc()
	}
	if name, ok := strings.CutSuffix(first.text, ":"); ok {
		err = a.addLabel(name, first.col)
	} else if op, ok := lang.Op(first.text); ok {
		err = a.addInstr(op, r)
	} else {
		err = wrong(first.col, api.ErrWord)
	}
	if err != nil {
		return err
	}
	return r.end()
}

// addLabel names the place of the instruction that comes next.
func (a *assembly) addLabel(name string, col int) error {
	if !isName(name) {
		return wrong(col, api.ErrWord)
	}
	if _, ok := a.labels[name]; ok {
		return wrong(col, api.ErrTwice)
	}
	a.labels[name] = len(a.program().Code)
	return nil
}

// addInstr reads an instruction's argument, if it has one, and puts the instruction behind the others.
func (a *assembly) addInstr(op int, r *reader) error {
	in := api.Instr{Op: op}
	var err error
	switch {
	case isJump(op):
		err = a.addJump(r)
	case lang.Wants(op):
		in.A, err = r.number()
	}
	if err != nil {
		return err
	}
	p := a.program()
	p.Code = append(p.Code, in)
	return nil
}

// addJump reads the label of the jump or zero that comes next. Its place is known at the procedure's end only.
func (a *assembly) addJump(r *reader) error {
	w, err := r.next()
	if err != nil {
		return err
	}
	if !isName(w.text) {
		return wrong(w.col, api.ErrWord)
	}
	if _, ok := a.labels[w.text]; ok {
		return wrong(w.col, api.ErrJump)
	}
	a.jumps = append(a.jumps, jump{from: len(a.program().Code), label: w.text, at: a.spot(w)})
	return nil
}

// endProc ends a procedure: its jumps get their places.
func (a *assembly) endProc() error {
	code := a.program().Code
	for _, j := range a.jumps {
		to, ok := a.labels[j.label]
		if !ok {
			return wrongAt(j.at, api.ErrLabel)
		}
		code[j.from].A = int64(to)
	}
	a.isOpen = false
	return nil
}

// program is that of the procedure that is read.
func (a *assembly) program() *api.Program { return &a.lib[len(a.lib)-1].Program }

// spot is the place of a word of the line that is read.
func (a *assembly) spot(w word) api.Spot { return api.Spot{Line: a.line, Col: w.col} }

// library is what was read, if the text may end there and it is sound.
func (a *assembly) library() ([]api.Proc, error) {
	if a.isOpen {
		return nil, wrongAt(a.begun, api.ErrEnd)
	}
	if i, e := lang.Check(a.lib); e != api.OK {
		return nil, wrongAt(a.names[i], e)
	}
	return a.lib, nil
}
