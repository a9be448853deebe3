package compile

import "prelude/api"

// deepest is within how many others an expression may stand, and with it a block, as ahead of each block an expression is looked over. A tree of which anything is promised is not as deep; one with a list that stands within itself would be gone through for ever.
const deepest = 1 << 17

// look goes through an expression, from the left to the right, and shows what has parts ahead of these: of what has parts just a get by a number may be wrong, and then its parts don't matter.
type look struct {
	part func(*api.Expr)
	seen map[*api.Expr]struct{} // what was gone through: lists may share memory, and need no second look
}

// lookOver shows an expression, that stands within so many other parts, and all parts of it to a function, that gives up where one is wrong.
func lookOver(x *api.Expr, deep int, part func(*api.Expr)) {
	l := look{part, map[*api.Expr]struct{}{}}
	l.over(x, deep)
}

func (l *look) over(x *api.Expr, deep int) {
	if _, was := l.seen[x]; was {
		return
	}
	want(deep < deepest, x.At, api.ErrLimit)
	l.part(x)
	for i := range x.Args {
		l.over(&x.Args[i], deep+1)
	}
	l.seen[x] = struct{}{}
}

// known gives up at a name that nothing has.
func (n *names) known(x *api.Expr) {
	is := true
	switch x.Kind {
	case api.EName:
		_, is = n.load(x.Name)
	case api.EGet, api.EHas:
		_, is = n.reads[x.Name]
	}
	want(is, x.At, api.ErrUnknown)
}

// fixed gives up at what no constant expression has.
func (n *names) fixed(x *api.Expr) {
	switch x.Kind {
	case api.EName:
		in, is := n.load(x.Name)
		want(is, x.At, api.ErrUnknown)
		want(in.Op == api.IPush, x.At, api.ErrSort)
	case api.EGet, api.EHas, api.EGetX:
		giveUp(x.At, api.ErrFold)
	}
}
