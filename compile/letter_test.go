package compile_test

import "prelude/api"

// line is an instruction, or, without one, a label that stands there. What goes to a label has no other A.
type line struct {
	in   api.Instr
	to   *int // the label that the instruction goes to
	here *int // the label that stands here
}

// assembled is the instructions of some lines, once it is known where the labels stand.
func assembled(lines []line) []api.Instr {
	n := 0
	for _, x := range lines {
		if x.here != nil {
			*x.here = n
		} else {
			n++
		}
	}
	var code []api.Instr
	for _, x := range lines {
		if x.here == nil {
			if x.to != nil {
				x.in.A = int64(*x.to)
			}
			code = append(code, x.in)
		}
	}
	return code
}

// The ways to make lines.

func plain(op int, a int64) []line { return []line{{in: api.Instr{Op: op, A: a}}} }

func zeroTo(label *int) []line { return []line{{in: api.Instr{Op: api.IZero}, to: label}} }

func jumpTo(label *int) []line { return []line{{in: api.Instr{Op: api.IJump}, to: label}} }

func mark(label *int) []line { return []line{{here: label}} }

func joined(parts ...[]line) []line {
	var out []line
	for _, p := range parts {
		out = append(out, p...)
	}
	return out
}

// codeOfBody is the code of a block that was looked over.
func (l *letter) codeOfBody(stmts []api.Stmt) []line {
	was := len(l.visible)
	var out []line
	for _, s := range stmts {
		out = append(out, l.codeOfStmt(s)...)
	}
	l.visible = l.visible[:was]
	return out
}

func (l *letter) codeOfStmt(s api.Stmt) []line {
	x := func() []line { return l.code(s.X) }
	switch s.Kind {
	case api.SLet:
		out := joined(x(), plain(api.ISave, int64(l.seen('l'))))
		l.visible = append(l.visible, thing{s.Name, 'l', int64(l.seen('l'))})
		return out
	case api.SSet:
		t, _ := l.find(s.Name)
		return joined(x(), plain(api.ISave, t.n))
	case api.SPut:
		return joined(x(), plain(api.IPut, int64(place(l.writes, s.Name))))
	case api.SPutX:
		return joined(x(), l.code(s.Y), plain(api.IPutX, 0))
	case api.SDel:
		return plain(api.IDel, int64(place(l.writes, s.Name)))
	case api.SOut:
		return joined(x(), plain(api.IOut, 0))
	case api.SAbort:
		return joined(x(), plain(api.IAbort, 0))
	case api.SStop:
		return plain(api.IStop, 0)
	case api.SIf:
		a, b := new(int), new(int)
		if len(s.Else) == 0 {
			return joined(x(), zeroTo(a), l.codeOfBody(s.Body), mark(a))
		}
		return joined(x(), zeroTo(a), l.codeOfBody(s.Body), jumpTo(b), mark(a), l.codeOfBody(s.Else), mark(b))
	}
	n, _ := l.constant(s.X)
	var out []line
	// What is far too long needs no more.
	for i := int64(0); i < n && len(out) < 3000; i++ {
		out = append(out, l.codeOfBody(s.Body)...)
	}
	return out
}

// code is the code of an expression that was looked over.
func (l *letter) code(x api.Expr) []line {
	part := func(i int) []line { return l.code(x.Args[i]) }
	a, b, c := new(int), new(int), new(int)
	switch x.Kind {
	case api.ENum:
		return plain(api.IPush, x.N)
	case api.EName:
		t, _ := l.find(x.Name)
		return plain(map[byte]int{'c': api.IPush, 'a': api.IArg, 'l': api.ILoad}[t.sort], t.n)
	case api.EGet:
		return plain(api.IGet, int64(place(l.reads, x.Name)))
	case api.EHas:
		return plain(api.IHas, int64(place(l.reads, x.Name)))
	case api.EGetX:
		return joined(part(0), plain(api.IGetX, 0))
	case api.EUnary:
		return joined(part(0), plain(x.Op, 0))
	case api.EBinary:
		return joined(part(0), part(1), plain(x.Op, 0))
	case api.EAnd:
		return joined(part(0), zeroTo(a), part(1), zeroTo(a), plain(api.IPush, 1), jumpTo(b), mark(a), plain(api.IPush, 0), mark(b))
	case api.EOr:
		return joined(part(0), zeroTo(a), plain(api.IPush, 1), jumpTo(b), mark(a), part(1), zeroTo(c), plain(api.IPush, 1), jumpTo(b), mark(c), plain(api.IPush, 0), mark(b))
	}
	return joined(part(0), zeroTo(a), part(1), jumpTo(b), mark(a), part(2), mark(b))
}
