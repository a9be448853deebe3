package query_test

import (
	"math"
	"math/rand"
	"slices"

	"prelude/api"
)

// tree is a term and all that it is reckoned from; and its place, where it was grown of a query's terms.
type tree struct {
	op    int
	num   int64
	l, r  *tree
	place int
}

// shows is an item and its term, if it has one.
type shows struct {
	kind int
	of   *tree
}

// question is a query whose terms are trees.
type question struct {
	table    int
	from, to int64
	where    []*tree
	group    *tree
	items    []shows
	sorts    []api.Sort
	limit    int
}

// whole is the question of all rows of a table that has nothing else yet.
func whole(table int) question {
	return question{table: table, from: math.MinInt64, to: math.MaxInt64, limit: -1}
}

// layer lays trees as terms.
type layer struct {
	terms []api.Term
}

// lay lays a tree in the order in which its reading ends, and answers its place.
func (l *layer) lay(t *tree) int {
	x := api.Term{Op: t.op, Num: t.num}
	if t.l != nil {
		x.L = l.lay(t.l)
	}
	if t.r != nil {
		x.R = l.lay(t.r)
	}
	l.terms = append(l.terms, x)
	return len(l.terms) - 1
}

// query is the question as Parse answers it.
func (q question) query() api.Query {
	var l layer
	out := api.Query{Table: q.table, From: q.from, To: q.to, Group: -1, Sorts: slices.Clone(q.sorts), Limit: q.limit}
	for _, t := range q.where {
		out.Where = append(out.Where, l.lay(t))
	}
	if q.group != nil {
		out.Group = l.lay(q.group)
	}
	for _, i := range q.items {
		item := api.Item{Kind: i.kind}
		if i.of != nil {
			item.Term = l.lay(i.of)
		}
		out.Items = append(out.Items, item)
	}
	out.Terms = l.terms
	return out
}

// asked is the question that a sound query asks.
func asked(q api.Query) question {
	out := question{table: q.Table, from: q.From, to: q.To, sorts: slices.Clone(q.Sorts), limit: q.Limit}
	for _, at := range q.Where {
		out.where = append(out.where, grown(q.Terms, at))
	}
	if q.Group != -1 {
		out.group = grown(q.Terms, q.Group)
	}
	for _, i := range q.Items {
		s := shows{kind: i.Kind}
		if i.Kind != api.ItemCount {
			s.of = grown(q.Terms, i.Term)
		}
		out.items = append(out.items, s)
	}
	return out
}

// grown is the tree of a term.
func grown(terms []api.Term, at int) *tree {
	t := &tree{op: terms[at].Op, num: terms[at].Num, place: at}
	if sizeOf(t.op) > 0 {
		t.l = grown(terms, terms[at].L)
	}
	if sizeOf(t.op) > 1 {
		t.r = grown(terms, terms[at].R)
	}
	return t
}

// sizeOf is how many terms a kind of term is reckoned from; -1: it is none.
func sizeOf(op int) int {
	switch {
	case op == api.QNum || op == api.QRow || op == api.QValue:
		return 0
	case op == api.QNot || op == api.QNeg:
		return 1
	case markBetween(op) != "":
		return 2
	}
	return -1
}

// markBetween is the mark of a kind of term with two parts.
func markBetween(op int) string {
	return map[int]string{
		api.QOr: "||", api.QAnd: "&&", api.QEq: "==", api.QNe: "!=", api.QLt: "<", api.QLe: "<=", api.QGt: ">", api.QGe: ">=",
		api.QAdd: "+", api.QSub: "-", api.QMul: "*", api.QDiv: "/", api.QMod: "%",
	}[op]
}

// maker makes questions and rows by chance.
type maker struct {
	*rand.Rand
}

func newMaker(seed int64) *maker { return &maker{rand.New(rand.NewSource(seed))} }

// one is one of some numbers.
func one[T any](m *maker, list ...T) T { return list[m.Intn(len(list))] }

// number is any number that a term may have, mostly a small one.
func (m *maker) number() int64 {
	switch m.Intn(12) {
	case 0:
		return one(m, int64(math.MaxInt64), math.MaxInt64-1, 1<<62, 1<<32, 1<<31)
	case 1:
		return m.Int63()
	}
	return int64(m.Intn(8))
}

// edge is any number, mostly a small one.
func (m *maker) edge() int64 {
	switch m.Intn(8) {
	case 0:
		return one(m, int64(math.MinInt64), math.MinInt64+1, math.MaxInt64, math.MaxInt64-1, 1<<62, -1<<62)
	case 1:
		return int64(m.Uint64())
	}
	return int64(m.Intn(12)) - 3
}

// single is any tree without parts.
func (m *maker) single() *tree {
	t := &tree{op: one(m, api.QNum, api.QRow, api.QRow, api.QValue, api.QValue)}
	if t.op == api.QNum {
		t.num = m.number()
	}
	return t
}

// tree is any tree that is at most so deep.
func (m *maker) tree(deep int) *tree {
	if deep == 0 || m.Intn(5) == 0 {
		return m.single()
	}
	op := 3 + m.Intn(15)
	t := &tree{op: op, l: m.tree(m.Intn(deep))}
	if sizeOf(op) == 2 {
		t.r = m.tree(m.Intn(deep))
	}
	return t
}

// bound is any bound.
func (m *maker) bound() *tree {
	op := one(m, api.QEq, api.QLt, api.QLt, api.QLe, api.QGt, api.QGe, api.QGe)
	t := &tree{op: op, l: &tree{op: api.QRow}, r: &tree{op: api.QNum, num: int64(m.Intn(10))}}
	if m.Intn(10) == 0 {
		t.r.num = m.number()
	}
	if m.Intn(2) == 0 {
		t.l, t.r = t.r, t.l
	}
	return t
}

// condition is any condition, with bounds here and there.
func (m *maker) condition(deep int) *tree {
	switch {
	case m.Intn(3) == 0:
		return m.bound()
	case deep == 0 || m.Intn(4) == 0:
		return m.tree(m.Intn(3))
	}
	op := one(m, api.QAnd, api.QAnd, api.QAnd, api.QOr, api.QNot, api.QEq)
	t := &tree{op: op, l: m.condition(m.Intn(deep))}
	if op != api.QNot {
		t.r = m.condition(m.Intn(deep))
	}
	return t
}

// items is any items: plain ones, or what is gathered.
func (m *maker) items(plain bool) []shows {
	var list []shows
	for range 1 + m.Intn(3) {
		i := shows{kind: api.ItemTerm}
		if !plain {
			i.kind = one(m, api.ItemCount, api.ItemSum, api.ItemMin, api.ItemMax)
		}
		if i.kind != api.ItemCount {
			i.of = m.tree(m.Intn(3))
		}
		list = append(list, i)
	}
	return list
}

// question is any question that is sound, of table 3 mostly.
func (m *maker) question() question {
	q := whole(one(m, 3, 3, 3, 3, 4, 0, api.MaxTable))
	if m.Intn(2) == 0 {
		q.from, q.to = m.edge(), m.edge()
		if q.from > q.to {
			q.from, q.to = q.to, q.from
		}
	}
	for range m.Intn(3) {
		q.where = append(q.where, m.condition(m.Intn(4)))
	}
	plain := m.Intn(2) == 0
	if !plain && m.Intn(2) == 0 {
		q.group = m.tree(m.Intn(3))
	}
	q.items = m.items(plain)
	for range m.Intn(3) {
		q.sorts = append(q.sorts, api.Sort{Column: 1 + m.Intn(q.columns()), Desc: m.Intn(2) == 0})
	}
	if m.Intn(4) == 0 {
		q.limit = one(m, 0, 1, 2, 3, math.MaxInt)
	}
	return q
}

// columns is how many columns the question's lines have.
func (q question) columns() int {
	if q.group != nil {
		return len(q.items) + 1
	}
	return len(q.items)
}

// rows is any rows, in any order, some of them twice, mostly of table 3.
func (m *maker) rows(most int) []api.Row {
	var list []api.Row
	for range m.Intn(most + 1) {
		k := api.Key{Table: one(m, 3, 3, 3, 3, 4, 0, api.MaxTable), Row: m.edge()}
		list = append(list, api.Row{Key: k, Value: m.edge()})
	}
	return list
}

// shuffled is a sound query with its terms in any order that may be.
func (m *maker) shuffled(q api.Query) api.Query {
	var order, ready []int // the old places, in the new order; those whose parts have one
	missing, above, places := make([]int, len(q.Terms)), make([]int, len(q.Terms)), make([]int, len(q.Terms))
	for at, t := range q.Terms {
		missing[at] = sizeOf(t.Op)
		for _, p := range []int{t.L, t.R}[:missing[at]] {
			above[p] = at
		}
		if missing[at] == 0 {
			ready = append(ready, at)
		}
	}
	for len(ready) > 0 {
		i := m.Intn(len(ready))
		at := ready[i]
		ready = slices.Delete(ready, i, i+1)
		places[at] = len(order)
		order = append(order, at)
		if missing[above[at]]--; missing[above[at]] == 0 {
			ready = append(ready, above[at])
		}
	}
	return replaced(q, order, places)
}

// replaced is a query with its terms in another order.
func replaced(q api.Query, order, places []int) api.Query {
	out := q
	out.Terms, out.Where, out.Items = nil, nil, nil
	for _, at := range order {
		t := q.Terms[at]
		if sizeOf(t.Op) > 0 {
			t.L = places[t.L]
		}
		if sizeOf(t.Op) > 1 {
			t.R = places[t.R]
		}
		out.Terms = append(out.Terms, t)
	}
	for _, at := range q.Where {
		out.Where = append(out.Where, places[at])
	}
	if q.Group != -1 {
		out.Group = places[q.Group]
	}
	for _, i := range q.Items {
		if i.Kind != api.ItemCount {
			i.Term = places[i.Term]
		}
		out.Items = append(out.Items, i)
	}
	return out
}
