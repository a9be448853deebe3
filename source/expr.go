package source

import "prelude/api"

// expression reads an expression. The function for the whole is handed down to those for the parts, as any of them may have a whole one within it.
func (r *reading) expression() api.Expr {
	var whole func() api.Expr
	whole = func() api.Expr {
		x := r.joined(rankOr, whole)
		if r.comes("?") {
			return r.choice(x, whole)
		}
		return x
	}
	return whole()
}

// choice reads what stands behind a condition.
func (r *reading) choice(x api.Expr, whole func() api.Expr) api.Expr {
	at := r.next().At
	return opened(r, func() api.Expr {
		y := whole()
		r.must(":")
		z := whole()
		return api.Expr{Kind: api.ECond, Args: []api.Expr{x, y, z}, At: at}
	})
}

// joined reads one of the grammar's lines from or to prod: parts of the line below it, and its signs between them.
func (r *reading) joined(rank int, whole func() api.Expr) api.Expr {
	if rank == rankUnary {
		return r.unary(whole)
	}
	x := r.joined(rank+1, whole)
	for {
		j, ok := jointOf(rank, r.next().Text)
		if !ok {
			return x
		}
		at := r.take().At
		y := r.joined(rank+1, whole)
		x = api.Expr{Kind: j.kind, Op: j.op, Args: []api.Expr{x, y}, At: at}
		if joinsOnce(rank) {
			return x
		}
	}
}

// unary reads a primary, and the signs ahead of it.
func (r *reading) unary(whole func() api.Expr) api.Expr {
	for _, op := range [...]int{api.INeg, api.INot} {
		if r.comes(signOfUnary(op)) {
			at := r.next().At
			x := opened(r, func() api.Expr { return r.unary(whole) })
			return api.Expr{Kind: api.EUnary, Op: op, Args: []api.Expr{x}, At: at}
		}
	}
	return r.primary(whole)
}

// primary reads what stands by itself.
func (r *reading) primary(whole func() api.Expr) api.Expr {
	t := r.next()
	switch {
	case t.Kind == api.TNumber:
		r.take()
		return api.Expr{Kind: api.ENum, N: t.N, At: t.At}
	case t.Kind == api.TName:
		r.take()
		return api.Expr{Kind: api.EName, Name: t.Text, At: t.At}
	case r.comes("("):
		return bracketed(r, "(", ")", whole)
	}
	x := r.called(whole)
	x.At = t.At
	return x
}

// called reads a word that reads or reckons, and what it is given.
func (r *reading) called(whole func() api.Expr) api.Expr {
	switch {
	case r.takes("get"):
		if r.comes("[") {
			return api.Expr{Kind: api.EGetX, Args: []api.Expr{bracketed(r, "[", "]", whole)}}
		}
		return api.Expr{Kind: api.EGet, Name: bracketed(r, "(", ")", r.name).Text}
	case r.takes("has"):
		return api.Expr{Kind: api.EHas, Name: bracketed(r, "(", ")", r.name).Text}
	}
	return r.ofTwo(whole)
}

// ofTwo reads a word that reckons from two expressions, and the two. Nothing else is left that could stand here.
func (r *reading) ofTwo(whole func() api.Expr) api.Expr {
	op := api.IMin
	if r.comes(wordOfTwo(api.IMax)) {
		op = api.IMax
	}
	r.must(wordOfTwo(op))
	args := bracketed(r, "(", ")", func() []api.Expr {
		x := whole()
		r.must(",")
		return []api.Expr{x, whole()}
	})
	return api.Expr{Kind: api.EBinary, Op: op, Args: args}
}
