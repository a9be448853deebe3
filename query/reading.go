package query

import "prelude/api"

// reading goes through a query's words. It keeps the first thing that is wrong, and nothing but the end comes from then on.
type reading struct {
	words []word // those that come next; the end is the last one
	deep  int    // how many brackets and unary marks the next one stands in
	q     api.Query
	fault error
}

// next is the word that comes next.
func (r *reading) next() word { return r.words[0] }

// comes tells whether a name or a mark comes next. No number has the text of one.
func (r *reading) comes(text string) bool { return r.next().text == text }

// take goes past the word that comes next, which is not the end.
func (r *reading) take() { r.words = r.words[1:] }

// takes goes past a name or a mark, if it comes next, and tells whether it did.
func (r *reading) takes(text string) bool {
	is := r.comes(text)
	if is {
		r.take()
	}
	return is
}

// must goes past the name or the mark that nothing else can stand for.
func (r *reading) must(text string) {
	if !r.takes(text) {
		r.fail(api.ErrQuery)
	}
}

// number reads a number.
func (r *reading) number() int64 {
	w := r.next()
	if !w.number {
		r.fail(api.ErrQuery)
		return 0
	}
	r.take()
	return w.num
}

// fail keeps what is wrong with the word that comes next.
func (r *reading) fail(e api.Errno) {
	if r.fault == nil {
		r.fault = wrongAt(r.next().at, e)
	}
	r.words = r.words[len(r.words)-1:]
}

// query reads the whole.
func (r *reading) query() {
	r.must("from")
	r.q.Table = int(r.number())
	r.q.From, r.q.To = r.rows()
	for r.takes("where") {
		r.q.Where = append(r.q.Where, r.expr())
	}
	r.q.Group = -1
	if r.takes("group") {
		r.q.Group = r.expr()
	}
	r.items()
	r.sorts()
	r.q.Limit = -1
	if r.takes("limit") {
		r.q.Limit = int(r.number())
	}
	r.must("")
}

// rows reads from which row to which, if that is said.
func (r *reading) rows() (int64, int64) {
	if !r.takes("rows") {
		return leastRow, greatestRow
	}
	from := r.bound()
	r.must("to")
	return from, r.bound()
}

// bound reads a number that may be below 0.
func (r *reading) bound() int64 {
	if r.takes("-") {
		return -r.number()
	}
	return r.number()
}

// items reads what is shown.
func (r *reading) items() {
	r.must("show")
	r.item()
	for r.takes(",") {
		r.item()
	}
}

// item reads one of what is shown.
func (r *reading) item() {
	i := api.Item{Kind: r.kind()}
	if i.Kind != api.ItemCount {
		i.Term = r.expr()
	}
	r.q.Items = append(r.q.Items, i)
}

// kind reads the word that says what is gathered.
func (r *reading) kind() int {
	for _, kind := range [...]int{api.ItemCount, api.ItemSum, api.ItemMin, api.ItemMax} {
		if r.takes(wordOfItem(kind)) {
			return kind
		}
	}
	return api.ItemTerm
}

// sorts reads by which columns lines are sorted.
func (r *reading) sorts() {
	for r.takes("sort") {
		column := int(r.number())
		r.q.Sorts = append(r.q.Sorts, api.Sort{Column: column, Desc: r.takes("desc")})
	}
}

// expr reads an expression: the place of its term.
func (r *reading) expr() int { return r.tighter(rankOr) }

// tighter reads terms with marks between them that are no looser than a rank.
func (r *reading) tighter(rank int) int {
	left := r.unary()
	for {
		b, ok := binaryOf(r.next().text)
		if !ok || b.rank < rank {
			return left
		}
		r.take()
		left = r.term(api.Term{Op: b.op, L: left, R: r.tighter(b.rank + 1)})
	}
}

// unary reads what stands by itself, and the marks ahead of it.
func (r *reading) unary() int {
	for _, op := range [...]int{api.QNot, api.QNeg} {
		if r.comes(markOfOne(op)) {
			return r.term(api.Term{Op: op, L: r.opened(r.unary)})
		}
	}
	if r.comes("(") {
		t := r.opened(r.expr)
		r.must(")")
		return t
	}
	return r.single()
}

// opened reads the bracket or the unary mark that comes next, and what stands in it.
func (r *reading) opened(inner func() int) int {
	if r.deep == api.MaxDeep {
		r.fail(api.ErrLimit)
		return 0
	}
	r.take()
	r.deep++
	t := inner()
	r.deep--
	return t
}

// single reads a number, the row or the value.
func (r *reading) single() int {
	switch {
	case r.takes("row"):
		return r.term(api.Term{Op: api.QRow})
	case r.takes("value"):
		return r.term(api.Term{Op: api.QValue})
	}
	return r.term(api.Term{Op: api.QNum, Num: r.number()})
}

// term keeps a term whose reading ends, and answers its place.
func (r *reading) term(t api.Term) int {
	r.q.Terms = append(r.q.Terms, t)
	return len(r.q.Terms) - 1
}
