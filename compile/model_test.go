package compile_test

import (
	"reflect"
	"testing"

	"prelude/api"
	"prelude/compile"
	"prelude/lang"
)

// thing is what a name stands for: of the sort c a constant and its value, a an arg and its place, l a local and its slot.
type thing struct {
	name string
	sort byte
	n    int64
}

// letter is the chapter taken by its letter: it looks over first, and then writes, with what is visible as a list.
type letter struct {
	visible       []thing
	reads, writes []string
	slots         int
}

func wrongAt(at api.Spot, e api.Errno) *api.PosError {
	return &api.PosError{Line: at.Line, Col: at.Col, Err: e}
}

func (l *letter) find(name string) (thing, bool) {
	for _, t := range l.visible {
		if t.name == name {
			return t, true
		}
	}
	return thing{}, false
}

func (l *letter) seen(sort byte) int {
	n := 0
	for _, t := range l.visible {
		if t.sort == sort {
			n++
		}
	}
	return n
}

func place(list []string, name string) int {
	for i, s := range list {
		if s == name {
			return i
		}
	}
	return -1
}

// compileByLetter is 19.2 and 19.3 of a tree that can be written.
func compileByLetter(s api.Source) ([]api.Proc, *api.PosError) {
	var consts []thing
	for _, c := range s.Consts {
		l := &letter{visible: consts}
		if _, was := l.find(c.Name); was {
			return nil, wrongAt(c.At, api.ErrAgain)
		}
		v, wrong := l.constant(c.X)
		if wrong != nil {
			return nil, wrong
		}
		consts = append(consts, thing{c.Name, 'c', v})
	}
	var lib []api.Proc
	for i, d := range s.Procs {
		if len(d.Name) > 31 || i >= 64 {
			return nil, wrongAt(d.At, api.ErrLimit)
		}
		for _, other := range s.Procs[:i] {
			if other.Name == d.Name {
				return nil, wrongAt(d.At, api.ErrAgain)
			}
		}
		p, wrong := defineByLetter(consts, d)
		if wrong != nil {
			return nil, wrong
		}
		lib = append(lib, p)
	}
	for i, p := range lib {
		if len(p.Program.Code) > 256 || lang.Verify(p.Program) == api.ErrStack {
			return nil, wrongAt(s.Procs[i].At, api.ErrLarge)
		}
	}
	return lib, nil
}

func defineByLetter(consts []thing, d api.Define) (api.Proc, *api.PosError) {
	l := &letter{visible: append([]thing{}, consts...)}
	for i, a := range d.Args {
		if i >= 16 {
			return api.Proc{}, wrongAt(a.At, api.ErrLimit)
		}
		if _, was := l.find(a.Text); was {
			return api.Proc{}, wrongAt(a.At, api.ErrAgain)
		}
		l.visible = append(l.visible, thing{a.Text, 'a', int64(i)})
	}
	for _, list := range []struct {
		from []api.Name
		to   *[]string
	}{{d.Reads, &l.reads}, {d.Writes, &l.writes}} {
		for i, a := range list.from {
			if i >= 16 {
				return api.Proc{}, wrongAt(a.At, api.ErrLimit)
			}
			if place(*list.to, a.Text) >= 0 {
				return api.Proc{}, wrongAt(a.At, api.ErrAgain)
			}
			*list.to = append(*list.to, a.Text)
		}
	}
	if wrong := l.body(d.Body); wrong != nil {
		return api.Proc{}, wrong
	}
	code := assembled(l.codeOfBody(d.Body))
	return api.Proc{Name: d.Name, Program: api.Program{Args: len(d.Args), Reads: len(l.reads), Writes: len(l.writes), Locals: l.slots, Code: code}}, nil
}

// body looks over a block.
func (l *letter) body(stmts []api.Stmt) *api.PosError {
	was := len(l.visible)
	for _, s := range stmts {
		if wrong := l.stmt(s); wrong != nil {
			return wrong
		}
	}
	l.visible = l.visible[:was]
	return nil
}

func (l *letter) stmt(s api.Stmt) *api.PosError {
	at, isThing := l.find(s.Name)
	switch s.Kind {
	case api.SLet:
		if wrong := l.expr(s.X); wrong != nil {
			return wrong
		}
		if isThing {
			return wrongAt(s.At, api.ErrAgain)
		}
		slot := l.seen('l')
		if slot >= 16 {
			return wrongAt(s.At, api.ErrLimit)
		}
		l.slots = max(l.slots, slot+1)
		l.visible = append(l.visible, thing{s.Name, 'l', int64(slot)})
		return nil
	case api.SSet:
		if !isThing {
			return wrongAt(s.At, api.ErrUnknown)
		}
		if at.sort != 'l' {
			return wrongAt(s.At, api.ErrSort)
		}
		return l.expr(s.X)
	case api.SPut, api.SDel:
		if place(l.writes, s.Name) < 0 {
			return wrongAt(s.At, api.ErrUnknown)
		}
		if s.Kind == api.SDel {
			return nil
		}
		return l.expr(s.X)
	case api.SPutX:
		if wrong := l.expr(s.X); wrong != nil {
			return wrong
		}
		return l.expr(s.Y)
	case api.SOut, api.SAbort:
		return l.expr(s.X)
	case api.SIf:
		wrong := l.expr(s.X)
		if wrong == nil {
			wrong = l.body(s.Body)
		}
		if wrong == nil {
			wrong = l.body(s.Else)
		}
		return wrong
	case api.SRepeat:
		n, wrong := l.constant(s.X)
		if wrong != nil {
			return wrong
		}
		if n < 0 || n > 256 {
			return wrongAt(s.X.At, api.ErrLimit)
		}
		return l.body(s.Body)
	}
	return nil
}

// expr looks over an expression, Args ahead of what they are parts of.
func (l *letter) expr(x api.Expr) *api.PosError {
	for _, a := range x.Args {
		if wrong := l.expr(a); wrong != nil {
			return wrong
		}
	}
	_, isThing := l.find(x.Name)
	if x.Kind == api.EName && !isThing || (x.Kind == api.EGet || x.Kind == api.EHas) && place(l.reads, x.Name) < 0 {
		return wrongAt(x.At, api.ErrUnknown)
	}
	return nil
}

// constant looks over a constant expression, and reckons it then.
func (l *letter) constant(x api.Expr) (int64, *api.PosError) {
	if wrong := l.fixed(x); wrong != nil {
		return 0, wrong
	}
	return l.reckon(x)
}

func (l *letter) fixed(x api.Expr) *api.PosError {
	switch x.Kind {
	case api.EGet, api.EHas, api.EGetX:
		return wrongAt(x.At, api.ErrFold)
	case api.EName:
		if t, is := l.find(x.Name); !is {
			return wrongAt(x.At, api.ErrUnknown)
		} else if t.sort != 'c' {
			return wrongAt(x.At, api.ErrSort)
		}
	}
	for _, a := range x.Args {
		if wrong := l.fixed(a); wrong != nil {
			return wrong
		}
	}
	return nil
}

func (l *letter) reckon(x api.Expr) (int64, *api.PosError) {
	switch x.Kind {
	case api.ENum:
		return x.N, nil
	case api.EName:
		t, _ := l.find(x.Name)
		return t.n, nil
	}
	first, wrong := l.reckon(x.Args[0])
	if wrong != nil {
		return 0, wrong
	}
	switch x.Kind {
	case api.EUnary:
		return one(x.Op, first), nil
	case api.EAnd, api.EOr:
		if (first != 0) == (x.Kind == api.EOr) {
			return one01(first != 0), nil
		}
		second, wrong := l.reckon(x.Args[1])
		if wrong != nil {
			return 0, wrong
		}
		return one01(second != 0), nil
	case api.ECond:
		if first != 0 {
			return l.reckon(x.Args[1])
		}
		return l.reckon(x.Args[2])
	}
	second, wrong := l.reckon(x.Args[1])
	if wrong != nil {
		return 0, wrong
	}
	v, e := both(x.Op, first, second)
	if e != api.OK {
		return 0, wrongAt(x.At, api.ErrFold)
	}
	return v, nil
}

// 19.2, 19.3: any sources, against the chapter by its letter.
func TestAgainstModel(t *testing.T) {
	kinds := map[api.Errno]int{}
	longest := 0
	for seed, wrong := range []int{0, 0, 200, 60, 25} {
		m := newMaker(int64(1900+seed), wrong)
		for range 6000 {
			s := m.source()
			want, no := compileByLetter(s)
			lib, err := compile.Compile(s)
			if no != nil {
				e := no.Err.(api.Errno)
				kinds[e]++
				if !reflect.DeepEqual(err, error(no)) || lib != nil {
					t.Fatalf("%v is %v, %v, want %v", s, lib, err, no)
				}
				continue
			}
			kinds[api.OK]++
			if err != nil || !sameLibrary(lib, want) {
				t.Fatalf("%v is\n%v, %v, want\n%v", s, lib, err, want)
			}
			for _, p := range lib {
				longest = max(longest, len(p.Program.Code))
			}
		}
	}
	for _, e := range []api.Errno{api.OK, api.ErrUnknown, api.ErrAgain, api.ErrSort, api.ErrFold, api.ErrLimit, api.ErrLarge} {
		if kinds[e] < 40 {
			t.Errorf("of %d there were %d", e, kinds[e])
		}
	}
	if longest < 200 {
		t.Errorf("the longest program has %d instructions", longest)
	}
}
