package source

import "prelude/api"

// source reads all tokens.
func (r *reading) source() api.Source {
	var s api.Source
	for len(r.tokens) > 0 {
		if r.takes("const") {
			s.Consts = append(s.Consts, r.constant())
		} else {
			r.must("proc")
			s.Procs = append(s.Procs, r.procedure())
		}
	}
	return s
}

// constant reads what stands behind the word const.
func (r *reading) constant() api.Const {
	name := r.name()
	r.must("=")
	x := r.expression()
	r.must(";")
	return api.Const{Name: name.Text, X: x, At: name.At}
}

// procedure reads what stands behind the word proc.
func (r *reading) procedure() api.Define {
	name := r.name()
	d := api.Define{Name: name.Text, At: name.At}
	d.Args = bracketed(r, "(", ")", r.args)
	if r.takes("reads") {
		d.Reads = r.names()
	}
	if r.takes("writes") {
		d.Writes = r.names()
	}
	d.Body = r.block()
	return d
}

// args reads names, or none.
func (r *reading) args() []api.Name {
	if r.comes(")") {
		return nil
	}
	return r.names()
}

// names reads one or more names.
func (r *reading) names() []api.Name {
	names := []api.Name{r.name()}
	for r.takes(",") {
		names = append(names, r.name())
	}
	return names
}

// block reads a block.
func (r *reading) block() []api.Stmt {
	return bracketed(r, "{", "}", func() []api.Stmt {
		var stmts []api.Stmt
		for !r.comes("}") {
			stmts = append(stmts, r.statement())
		}
		return stmts
	})
}

// statement reads a statement.
func (r *reading) statement() api.Stmt {
	at := r.next().At
	if r.takes("if") {
		return r.condition(at)
	}
	if r.takes("repeat") {
		x := r.expression()
		return api.Stmt{Kind: api.SRepeat, X: x, Body: r.block(), At: at}
	}
	s := r.simple()
	s.At = at
	r.must(";")
	return s
}

// condition reads what stands behind an if that stands at a place.
func (r *reading) condition(at api.Spot) api.Stmt {
	s := api.Stmt{Kind: api.SIf, At: at}
	s.X = r.expression()
	s.Body = r.block()
	if r.takes("else") {
		s.Else = r.otherwise()
	}
	return s
}

// otherwise reads what stands behind an else.
func (r *reading) otherwise() []api.Stmt {
	if !r.comes("if") {
		return r.block()
	}
	at := r.next().At
	return opened(r, func() []api.Stmt { return []api.Stmt{r.condition(at)} })
}

// simple reads a statement that has no block, up to its semicolon.
func (r *reading) simple() api.Stmt {
	switch {
	case r.takes("let"):
		return r.assignment(api.SLet)
	case r.takes("put"):
		return r.put()
	case r.takes("del"):
		return api.Stmt{Kind: api.SDel, Name: r.name().Text}
	case r.takes("out"):
		return api.Stmt{Kind: api.SOut, X: r.expression()}
	case r.takes("abort"):
		return api.Stmt{Kind: api.SAbort, X: r.expression()}
	case r.takes("stop"):
		return api.Stmt{Kind: api.SStop}
	}
	return r.assignment(api.SSet)
}

// put reads what stands behind the word put.
func (r *reading) put() api.Stmt {
	if !r.comes("[") {
		return r.assignment(api.SPut)
	}
	x := bracketed(r, "[", "]", r.expression)
	r.must("=")
	return api.Stmt{Kind: api.SPutX, X: x, Y: r.expression()}
}

// assignment reads a name and what it is given.
func (r *reading) assignment(kind int) api.Stmt {
	name := r.name()
	r.must("=")
	return api.Stmt{Kind: kind, Name: name.Text, X: r.expression()}
}
