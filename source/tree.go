package source

import "prelude/api"

// exprParts is which of its fields an expression of a kind uses, and how many Args it has. Which Op it may have is asked otherwise.
type exprParts struct {
	number, name bool
	args         int
}

// stmtParts is which of its fields a statement of a kind uses.
type stmtParts struct {
	name, x, y, body, otherwise bool
}

var partsOfExprs = [...]exprParts{
	api.ENum:    {number: true},
	api.EName:   {name: true},
	api.EGet:    {name: true},
	api.EHas:    {name: true},
	api.EGetX:   {args: 1},
	api.EUnary:  {args: 1},
	api.EBinary: {args: 2},
	api.EAnd:    {args: 2},
	api.EOr:     {args: 2},
	api.ECond:   {args: 3},
}

var partsOfStmts = [...]stmtParts{
	api.SLet:    {name: true, x: true},
	api.SSet:    {name: true, x: true},
	api.SPut:    {name: true, x: true},
	api.SPutX:   {x: true, y: true},
	api.SDel:    {name: true},
	api.SOut:    {x: true},
	api.SAbort:  {x: true},
	api.SStop:   {},
	api.SIf:     {x: true, body: true, otherwise: true},
	api.SRepeat: {x: true, body: true},
}

// pile is the parts of a tree that are still to be looked at. Each part comes onto it once: lists may share memory, and one may even stand within itself.
type pile[T any] struct {
	rest []*T
	seen map[*T]struct{}
}

// add lays parts onto the pile.
func (p *pile[T]) add(parts []T) {
	for i := range parts {
		p.addOne(&parts[i])
	}
}

// addOne lays a part onto the pile, if it never was there.
func (p *pile[T]) addOne(part *T) {
	if _, was := p.seen[part]; !was {
		p.seen[part] = struct{}{}
		p.rest = append(p.rest, part)
	}
}

// take takes a part from the pile, which must have one.
func (p *pile[T]) take() *T {
	last := len(p.rest) - 1
	part := p.rest[last]
	p.rest = p.rest[:last]
	return part
}

// walk goes through a tree's statements and expressions. It goes by piles, as a tree may be far deeper than one that can be written.
type walk struct {
	stmts pile[api.Stmt]
	exprs pile[api.Expr]
}

// canBeWritten tells whether a source's tree can be written.
func canBeWritten(s api.Source) bool {
	w := walk{pile[api.Stmt]{seen: map[*api.Stmt]struct{}{}}, pile[api.Expr]{seen: map[*api.Expr]struct{}{}}}
	for i := range s.Consts {
		if !isName(s.Consts[i].Name) {
			return false
		}
		w.exprs.addOne(&s.Consts[i].X)
	}
	for _, d := range s.Procs {
		if !isName(d.Name) || !areNames(d.Args) || !areNames(d.Reads) || !areNames(d.Writes) {
			return false
		}
		w.stmts.add(d.Body)
	}
	return w.allFit()
}

// areNames tells whether each of a list is a name.
func areNames(names []api.Name) bool {
	for _, n := range names {
		if !isName(n.Text) {
			return false
		}
	}
	return true
}

// allFit tells whether all statements and expressions on the piles can be written, and all that stand within them.
func (w *walk) allFit() bool {
	for len(w.stmts.rest) > 0 {
		s := w.stmts.take()
		if !stmtFits(s) {
			return false
		}
		w.within(s)
	}
	for len(w.exprs.rest) > 0 {
		x := w.exprs.take()
		if !exprFits(x) {
			return false
		}
		w.exprs.add(x.Args)
	}
	return true
}

// within lays what stands within a statement onto the piles.
func (w *walk) within(s *api.Stmt) {
	w.stmts.add(s.Body)
	w.stmts.add(s.Else)
	if partsOfStmts[s.Kind].x {
		w.exprs.addOne(&s.X)
	}
	if partsOfStmts[s.Kind].y {
		w.exprs.addOne(&s.Y)
	}
}

// stmtFits tells whether a statement's own fields can be written.
func stmtFits(s *api.Stmt) bool {
	if s.Kind < api.SLet || s.Kind > api.SRepeat {
		return false
	}
	p := partsOfStmts[s.Kind]
	return nameFits(p.name, s.Name) &&
		(p.x || isZero(s.X)) && (p.y || isZero(s.Y)) &&
		(p.body || len(s.Body) == 0) && (p.otherwise || len(s.Else) == 0)
}

// exprFits tells whether an expression's own fields can be written.
func exprFits(x *api.Expr) bool {
	if x.Kind < api.ENum || x.Kind > api.ECond {
		return false
	}
	p := partsOfExprs[x.Kind]
	return (p.number || x.N == 0) && nameFits(p.name, x.Name) && opFits(*x) && len(x.Args) == p.args
}

// nameFits tells whether a name is as it is asked for: one, or none.
func nameFits(asked bool, name string) bool {
	if asked {
		return isName(name)
	}
	return name == ""
}

// opFits tells whether an expression's Op is one that its kind may have.
func opFits(x api.Expr) bool {
	switch x.Kind {
	case api.EUnary:
		return signOfUnary(x.Op) != ""
	case api.EBinary:
		_, ok := jointIn(x)
		return ok || wordOfTwo(x.Op) != ""
	}
	return x.Op == 0
}

// isZero tells whether an expression is none, wherever it stands.
func isZero(x api.Expr) bool {
	return x.Kind == 0 && x.Op == 0 && x.N == 0 && x.Name == "" && len(x.Args) == 0
}
