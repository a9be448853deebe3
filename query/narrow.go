package query

import (
	"slices"

	"prelude/api"
)

// copied is a query of new memory.
func copied(q api.Query) api.Query {
	q.Where = slices.Clone(q.Where)
	q.Items = slices.Clone(q.Items)
	q.Sorts = slices.Clone(q.Sorts)
	q.Terms = slices.Clone(q.Terms)
	return q
}

// gone is the place of what does not stay of a condition.
const gone = -1

// narrow takes the bounds out of a query of its own, and tells whether they let any row be.
func narrow(q api.Query) (api.Query, bool) {
	var where []int
	for _, at := range q.Where {
		if rest := unbound(&q, at); rest != gone {
			where = append(where, rest)
		}
	}
	q.Where = where
	if q.From > q.To {
		return api.Query{}, false
	}
	return tight(q), true
}

// unbound is the place of what stays of a condition, its bounds being kept by the query's rows from then on.
func unbound(q *api.Query, at int) int {
	t := q.Terms[at]
	if op, n, ok := bound(q.Terms, t); ok {
		from, to := letBe(op, n)
		q.From, q.To = max(q.From, from), min(q.To, to)
		return gone
	}
	if t.Op != api.QAnd {
		return at
	}
	left, right := unbound(q, t.L), unbound(q, t.R)
	switch {
	case left == gone:
		return right
	case right == gone:
		return left
	}
	q.Terms[at].L, q.Terms[at].R = left, right
	return at
}

// bound is what a term says of the row, with the number on the right, and whether it is a bound.
func bound(terms []api.Term, t api.Term) (op int, n int64, ok bool) {
	op = turned(t.Op)
	if op == 0 {
		return 0, 0, false
	}
	left, right := terms[t.L], terms[t.R]
	switch {
	case left.Op == api.QRow && right.Op == api.QNum:
		return t.Op, right.Num, true
	case left.Op == api.QNum && right.Op == api.QRow:
		return op, left.Num, true
	}
	return 0, 0, false
}

// turned is a bound's comparison turned round, 0 if no bound has it.
func turned(op int) int {
	switch op {
	case api.QEq:
		return api.QEq
	case api.QLt:
		return api.QGt
	case api.QLe:
		return api.QGe
	case api.QGt:
		return api.QLt
	case api.QGe:
		return api.QLe
	}
	return 0
}

// letBe is the first and the last row that a bound lets be; the last one is below the first one, if there is none. Its number is not below 0.
func letBe(op int, n int64) (from, to int64) {
	switch {
	case op == api.QEq:
		return n, n
	case op == api.QLt:
		return leastRow, n - 1
	case op == api.QLe:
		return leastRow, n
	case op == api.QGe:
		return n, greatestRow
	case n == greatestRow:
		return greatestRow, leastRow
	}
	return n + 1, greatestRow
}

// tight takes the terms that are named no more out of a query of its own.
func tight(q api.Query) api.Query {
	named := namedIn(q)
	places := make([]int, len(q.Terms))
	var terms []api.Term
	for at, t := range q.Terms {
		if !named[at] {
			continue
		}
		if needs(t.Op) > 0 {
			t.L = places[t.L]
		}
		if needs(t.Op) > 1 {
			t.R = places[t.R]
		}
		places[at] = len(terms)
		terms = append(terms, t)
	}
	q.Terms = terms
	return moved(q, places)
}

// namedIn tells of each term whether the query, or a term that it names, names it.
func namedIn(q api.Query) []bool {
	named := make([]bool, len(q.Terms))
	for _, at := range rootsOf(q) {
		named[at] = true
	}
	for at, t := range slices.Backward(q.Terms) {
		for _, part := range partsOf(t) {
			named[part] = named[part] || named[at]
		}
	}
	return named
}

// moved names the terms of a query of its own by their new places.
func moved(q api.Query, places []int) api.Query {
	for i := range q.Where {
		q.Where[i] = places[q.Where[i]]
	}
	if q.Group != -1 {
		q.Group = places[q.Group]
	}
	for i := range q.Items {
		if q.Items[i].Kind != api.ItemCount {
			q.Items[i].Term = places[q.Items[i].Term]
		}
	}
	return q
}
