package query_test

import (
	"math"
	"reflect"
	"slices"
	"testing"

	"prelude/api"
	"prelude/engine"
	"prelude/query"
)

// checked asks for Check's answer, and that all calls that take a query answer the same, and nothing else beside it.
func checked(t *testing.T, q api.Query, want api.Errno) {
	t.Helper()
	if e := query.Check(q); e != want {
		t.Errorf("Check(%+v): %d, want %d", q, e, want)
	}
	if want == api.OK {
		return
	}
	text, e := query.Text(q)
	narrow, f := query.Narrow(q)
	lines, g := query.Over(q, few())
	if e != want || f != want || g != want || text != "" || !reflect.DeepEqual(narrow, api.Query{}) || len(lines) != 0 {
		t.Errorf("%+v: %d, %q; %d, %v; %d, %v, want %d", q, e, text, f, narrow, g, lines, want)
	}
}

// altered asks for Check's answer of a query that is sound but for what is done to it.
func altered(t *testing.T, text string, alter func(q *api.Query), want api.Errno) {
	t.Helper()
	q := parsed(t, text)
	alter(&q)
	checked(t, q, want)
}

// 21.1: the table and the range.
func TestCheckTable(t *testing.T) {
	const text = "from 3 show row"
	for _, table := range []int{-1, math.MinInt, api.MaxTable + 1, math.MaxInt} {
		altered(t, text, func(q *api.Query) { q.Table = table }, api.ErrTable)
	}
	for _, table := range []int{0, 1, api.MaxTable} {
		altered(t, text, func(q *api.Query) { q.Table = table }, api.OK)
	}
	for _, r := range [][2]int64{{1, 0}, {0, -1}, {math.MaxInt64, math.MinInt64}, {math.MinInt64 + 1, math.MinInt64}, {math.MaxInt64, math.MaxInt64 - 1}} {
		altered(t, text, func(q *api.Query) { q.From, q.To = r[0], r[1] }, api.ErrTable)
		altered(t, text, func(q *api.Query) { q.From, q.To = r[1], r[0] }, api.OK)
	}
	for _, n := range []int64{math.MinInt64, -1, 0, 1, math.MaxInt64} {
		altered(t, text, func(q *api.Query) { q.From, q.To = n, n }, api.OK)
	}
	checked(t, api.Query{From: 1}, api.ErrTable)
}

// many is a list of so many of one thing.
func many[T any](n int, x T) []T { return slices.Repeat([]T{x}, n) }

// 21.1: how long the lists may be.
func TestCheckLimits(t *testing.T) {
	altered(t, "from 3 show count", func(q *api.Query) { q.Items = many(8, q.Items[0]) }, api.OK)
	altered(t, "from 3 show count", func(q *api.Query) { q.Items = many(9, q.Items[0]) }, api.ErrLimit)
	altered(t, "from 3 show count", func(q *api.Query) { q.Sorts = many(8, api.Sort{Column: 1}) }, api.OK)
	altered(t, "from 3 show count", func(q *api.Query) { q.Sorts = many(9, api.Sort{Column: 1}) }, api.ErrLimit)
	for n, want := range map[int]api.Errno{0: api.OK, 8: api.OK, 9: api.ErrLimit} {
		altered(t, "from 3 show count", func(q *api.Query) {
			for i := range n {
				q.Terms = append(q.Terms, api.Term{Op: api.QRow})
				q.Where = append(q.Where, i)
			}
		}, want)
	}
	for n, want := range map[int]api.Errno{255: api.OK, 256: api.OK, 257: api.ErrLimit, 10000: api.ErrLimit} {
		altered(t, "from 3 show row", func(q *api.Query) {
			for i := range n - 1 {
				q.Terms = append(q.Terms, api.Term{Op: api.QNeg, L: i})
			}
			q.Items[0].Term = n - 1
		}, want)
	}
	// The lists that are too long come ahead of what is wrong in them.
	checked(t, api.Query{Terms: many(257, api.Term{Op: 99})}, api.ErrLimit)
	checked(t, api.Query{Where: many(9, -5)}, api.ErrLimit)
	checked(t, api.Query{Items: many(9, api.Item{Kind: 99})}, api.ErrLimit)
	checked(t, api.Query{Sorts: many(9, api.Sort{})}, api.ErrLimit)
	checked(t, api.Query{Table: -1, Sorts: many(9, api.Sort{})}, api.ErrTable)
}

// all is a query with a term of each kind: 0 is a number, 1 the row, 2 the value, 3 to 15 are of two, 16 and 17 of one.
func all() api.Query {
	q := api.Query{Group: -1, Limit: -1, Terms: []api.Term{{Op: api.QNum, Num: 5}, {Op: api.QRow}, {Op: api.QValue}, {Op: api.QOr, L: 0, R: 1}, {Op: api.QAnd, L: 2, R: 3}}}
	for _, op := range []int{api.QEq, api.QNe, api.QLt, api.QLe, api.QGt, api.QGe, api.QAdd, api.QSub, api.QMul, api.QDiv, api.QMod} {
		n := len(q.Terms)
		q.Terms = append(q.Terms, api.Term{Op: api.QRow}, api.Term{Op: op, L: n - 1, R: n})
	}
	n := len(q.Terms)
	q.Terms = append(q.Terms, api.Term{Op: api.QNot, L: n - 1}, api.Term{Op: api.QNeg, L: n})
	q.Items = []api.Item{{Kind: api.ItemSum, Term: n + 1}}
	return q
}

// 21.1: terms, each by itself.
func TestCheckTerms(t *testing.T) {
	checked(t, all(), api.OK)
	for at := range all().Terms {
		for _, op := range []int{-1, 18, 19, 99, math.MinInt, math.MaxInt} {
			q := all()
			q.Terms[at].Op = op
			checked(t, q, api.ErrTerm)
		}
		for _, n := range []int64{-1, math.MinInt64, 1, math.MaxInt64, 0} {
			q := all()
			q.Terms[at].Num = n
			want := api.ErrTerm
			if n == 0 || n > 0 && q.Terms[at].Op == api.QNum {
				want = api.OK
			}
			checked(t, q, want)
		}
		for _, place := range []int{-1, -2, at, at + 1, len(all().Terms), math.MinInt, math.MaxInt} {
			q := all()
			q.Terms[at].L = place
			if place != 0 {
				checked(t, q, api.ErrTerm)
			}
			q = all()
			q.Terms[at].R = place
			if place != 0 {
				checked(t, q, api.ErrTerm)
			}
		}
	}
	// A field that a term does not use is 0, also where it names a term that nothing else names.
	checked(t, api.Query{Group: -1, Limit: -1, Terms: []api.Term{{Op: api.QRow}, {Op: api.QValue, L: 0}}, Items: []api.Item{{Term: 1}}}, api.ErrTerm)
	checked(t, api.Query{Group: -1, Limit: -1, Terms: []api.Term{{Op: api.QRow}, {Op: api.QRow}, {Op: api.QNot, L: 0, R: 1}}, Items: []api.Item{{Term: 2}}}, api.ErrTerm)
	checked(t, api.Query{Group: -1, Limit: -1, Terms: []api.Term{{Op: api.QRow}, {Op: api.QRow}, {Op: api.QNeg, L: 0, R: 1}}, Items: []api.Item{{Term: 2}}}, api.ErrTerm)
}

// 21.1: what names a term, and how often each is named.
func TestCheckNames(t *testing.T) {
	const text = "from 3 where row > 1 group value % 2 show count, sum row, max value"
	checked(t, parsed(t, text), api.OK)
	for _, place := range []int{-1, -2, 8, 9, math.MinInt, math.MaxInt, 0, 1, 3} {
		altered(t, text, func(q *api.Query) { q.Where[0] = place }, api.ErrTerm)
		altered(t, text, func(q *api.Query) { q.Group = place }, api.ErrTerm) // without its term named, also where it is -1
		altered(t, text, func(q *api.Query) { q.Items[1].Term = place }, api.ErrTerm)
		altered(t, text, func(q *api.Query) { q.Items[2].Term = place }, api.ErrTerm)
		altered(t, text, func(q *api.Query) { q.Where = append(q.Where, place) }, api.ErrTerm)
	}
	for _, group := range []int{-2, 0, 1, math.MinInt, math.MaxInt} {
		altered(t, "from 3 show count", func(q *api.Query) { q.Group = group }, api.ErrTerm)
	}
	// Each just once: not never, not twice, by whatever.
	altered(t, text, func(q *api.Query) { q.Terms = append(q.Terms, api.Term{Op: api.QRow}) }, api.ErrTerm)
	altered(t, text, func(q *api.Query) { q.Where = nil }, api.ErrTerm)
	altered(t, text, func(q *api.Query) { q.Items = q.Items[:2] }, api.ErrTerm)
	altered(t, text, func(q *api.Query) { q.Terms[5].R = 3 }, api.ErrTerm)
	altered(t, text, func(q *api.Query) { q.Items[1], q.Items[2] = q.Items[2], q.Items[1] }, api.OK)
	altered(t, text, func(q *api.Query) { q.Where[0], q.Group = q.Group, q.Where[0] }, api.OK)
	altered(t, text, func(q *api.Query) { q.Terms[2].L, q.Terms[2].R = 1, 0 }, api.OK)
	// A count names none: its Term is not looked at among what names terms.
	altered(t, "from 3 show sum row", func(q *api.Query) { q.Items[0] = api.Item{Kind: api.ItemCount} }, api.ErrTerm)
	altered(t, "from 3 show sum row, count", func(q *api.Query) {}, api.OK)
	// Items of no kind name one as well, and are looked at as items behind that.
	altered(t, "from 3 show sum row", func(q *api.Query) { q.Items[0].Kind = 5 }, api.ErrItems)
	altered(t, "from 3 show count", func(q *api.Query) { q.Items[0].Kind = 5 }, api.ErrTerm)
}

// 21.1: items.
func TestCheckItems(t *testing.T) {
	for _, kind := range []int{-1, 5, 99, math.MinInt, math.MaxInt} {
		altered(t, "from 3 show row", func(q *api.Query) { q.Items[0].Kind = kind }, api.ErrItems)
		altered(t, "from 3 show count, max row", func(q *api.Query) { q.Items[1].Kind = kind }, api.ErrItems)
	}
	for _, kind := range []int{api.ItemTerm, api.ItemSum, api.ItemMin, api.ItemMax} {
		altered(t, "from 3 show row", func(q *api.Query) { q.Items[0].Kind = kind }, api.OK)
	}
	for _, term := range []int{-1, 1, 99, math.MinInt, math.MaxInt} {
		altered(t, "from 3 show count", func(q *api.Query) { q.Items[0].Term = term }, api.ErrItems)
		altered(t, "from 3 show sum row, count", func(q *api.Query) { q.Items[1].Term = term }, api.ErrItems)
	}
	altered(t, "from 3 show count", func(q *api.Query) { q.Items = nil }, api.ErrItems)
	altered(t, "from 3 show count", func(q *api.Query) { q.Items = []api.Item{} }, api.ErrItems)
	altered(t, "from 3 show row, value", func(q *api.Query) { q.Items[1].Kind = api.ItemSum }, api.ErrItems)
	altered(t, "from 3 show row, value", func(q *api.Query) { q.Items[0].Kind = api.ItemMin }, api.ErrItems)
	altered(t, "from 3 show row", func(q *api.Query) { q.Items = append(q.Items, api.Item{Kind: api.ItemCount}) }, api.ErrItems)
	altered(t, "from 3 show row", func(q *api.Query) { q.Items = slices.Insert(q.Items, 0, api.Item{Kind: api.ItemCount}) }, api.ErrItems)
	altered(t, "from 3 group row show max value", func(q *api.Query) { q.Items[0].Kind = api.ItemTerm }, api.ErrItems)
	altered(t, "from 3 group row show max value, max row", func(q *api.Query) { q.Items[1].Kind = api.ItemTerm }, api.ErrItems)
	altered(t, "from 3 show max value, sum row", func(q *api.Query) { q.Items[0].Kind, q.Items[1].Kind = 0, 0 }, api.OK)
}

// 21.1: sorts and the limit.
func TestCheckSorts(t *testing.T) {
	for text, columns := range map[string]int{"from 3 show count": 1, "from 3 show row, row": 2, "from 3 group row show count": 2, "from 3 group row show count, max row, count": 4, "from 3 show 1,2,3,4,5,6,7,8": 8, "from 3 group 1 show sum 1,sum 2,sum 3,sum 4,sum 5,sum 6,sum 7,sum 8": 9} {
		for column := -2; column <= columns+2; column++ {
			want := api.ErrSorts
			if column >= 1 && column <= columns {
				want = api.OK
			}
			altered(t, text, func(q *api.Query) { q.Sorts = []api.Sort{{Column: column}} }, want)
			altered(t, text, func(q *api.Query) { q.Sorts = []api.Sort{{Column: 1, Desc: true}, {Column: column, Desc: true}} }, want)
		}
		for _, column := range []int{math.MinInt, math.MaxInt} {
			altered(t, text, func(q *api.Query) { q.Sorts = []api.Sort{{Column: column}} }, api.ErrSorts)
		}
	}
	for limit, want := range map[int]api.Errno{-1: api.OK, 0: api.OK, 1: api.OK, math.MaxInt: api.OK, -2: api.ErrSorts, math.MinInt: api.ErrSorts} {
		altered(t, "from 3 show row", func(q *api.Query) { q.Limit = limit }, want)
	}
}

// 21.1: what comes first in the chapter's list is answered.
func TestCheckOrder(t *testing.T) {
	faults := []struct {
		e     api.Errno
		alter func(q *api.Query)
	}{
		{api.ErrTable, func(q *api.Query) { q.Table = -1 }},
		{api.ErrLimit, func(q *api.Query) { q.Sorts = many(9, api.Sort{Column: 1}) }},
		{api.ErrTerm, func(q *api.Query) { q.Terms[0].Num = -1 }},
		{api.ErrItems, func(q *api.Query) { q.Items[1].Term = 7 }},
		{api.ErrSorts, func(q *api.Query) { q.Limit = -2 }},
	}
	for set := range 1 << len(faults) {
		q := parsed(t, "from 3 where 1 show max row, count")
		want := api.OK
		for i := len(faults) - 1; i >= 0; i-- {
			if set>>i&1 == 1 {
				faults[i].alter(&q)
				want = faults[i].e
			}
		}
		checked(t, q, want)
	}
}

// byTheLetter is Check by the letter.
func byTheLetter(q api.Query) api.Errno {
	named := map[int]int{}
	bad := false
	names := func(at, ahead int) {
		named[at]++
		bad = bad || at < 0 || at >= ahead
	}
	for at, t := range q.Terms {
		size := sizeOf(t.Op)
		bad = bad || size < 0 || t.Num < 0 || t.Num != 0 && t.Op != api.QNum || size == 0 && t.L != 0 || size <= 1 && t.R != 0
		if size > 0 {
			names(t.L, at)
		}
		if size > 1 {
			names(t.R, at)
		}
	}
	for _, at := range q.Where {
		names(at, len(q.Terms))
	}
	if q.Group != -1 {
		names(q.Group, len(q.Terms))
	}
	noItems, plain, columns := len(q.Items) == 0, 0, len(q.Items)
	for _, i := range q.Items {
		if i.Kind != api.ItemCount {
			names(i.Term, len(q.Terms))
		}
		if i.Kind == api.ItemTerm {
			plain++
		}
		noItems = noItems || i.Kind < 0 || i.Kind > 4 || i.Kind == api.ItemCount && i.Term != 0
	}
	noItems = noItems || plain > 0 && (q.Group != -1 || plain < len(q.Items))
	for at := range q.Terms {
		bad = bad || named[at] != 1
	}
	if q.Group != -1 {
		columns++
	}
	noSorts := q.Limit < -1 || slices.ContainsFunc(q.Sorts, func(s api.Sort) bool { return s.Column < 1 || s.Column > columns })
	switch {
	case q.Table < 0 || q.Table > 65535 || q.To < q.From:
		return api.ErrTable
	case len(q.Terms) > 256 || len(q.Where) > 8 || len(q.Items) > 8 || len(q.Sorts) > 8:
		return api.ErrLimit
	case bad:
		return api.ErrTerm
	case noItems:
		return api.ErrItems
	case noSorts:
		return api.ErrSorts
	}
	return api.OK
}

// slip makes one thing of a query another one.
func (m *maker) slip(q *api.Query) {
	places := []*int{&q.Table, &q.Group, &q.Limit}
	for i := range q.Where {
		places = append(places, &q.Where[i])
	}
	for i := range q.Items {
		places = append(places, &q.Items[i].Kind, &q.Items[i].Term)
	}
	for i := range q.Sorts {
		places = append(places, &q.Sorts[i].Column)
	}
	for i := range q.Terms {
		places = append(places, &q.Terms[i].Op, &q.Terms[i].L, &q.Terms[i].R)
	}
	switch m.Intn(8) {
	case 0:
		q.From = m.edge()
	case 1:
		if len(q.Terms) > 0 {
			q.Terms[m.Intn(len(q.Terms))].Num = m.edge()
		}
	case 2:
		q.Terms = append(q.Terms, api.Term{Op: m.Intn(19), L: m.Intn(4), R: m.Intn(4)})
	default:
		*places[m.Intn(len(places))] = one(m, -1, 0, 1, 2, 3, 4, len(q.Terms), len(q.Terms)-1, m.Intn(20), int(m.edge()))
	}
}

// 21.1: any queries, and what is near them.
func TestAnyChecks(t *testing.T) {
	m := newMaker(2111)
	met := map[api.Errno]int{}
	for range 40000 {
		q := m.question().query()
		for range m.Intn(4) {
			m.slip(&q)
		}
		want := byTheLetter(q)
		checked(t, q, want)
		met[want]++
	}
	for _, e := range []api.Errno{api.OK, api.ErrTable, api.ErrTerm, api.ErrItems, api.ErrSorts} {
		if met[e] < 200 {
			t.Errorf("%d is met %d times", e, met[e])
		}
	}
}

// 21.7: Check's error comes ahead of ErrPin.
func TestAskChecks(t *testing.T) {
	e := database(t, oneOfAll(), 20)
	m := newMaker(2117)
	for range 3000 {
		q := m.question().query()
		m.slip(&q)
		want := byTheLetter(q)
		for _, n := range []int{0, 1, -1, math.MaxInt} {
			lines, f := query.Ask(e, n, q)
			if want == api.OK {
				want = api.ErrPin
			}
			if f != want || len(lines) != 0 {
				t.Fatalf("Ask(%d, %+v): %v, %d, want %d", n, q, lines, f, want)
			}
		}
	}
}

// oneOfAll is the least layout.
func oneOfAll() api.Layout { return api.Layout{Workers: 1, Hands: 1, Parts: 1, Ahead: 1} }

// database is a database without batches, with a library that puts and deletes.
func database(t *testing.T, l api.Layout, capacity int) *engine.Engine {
	t.Helper()
	e, f := engine.New(l, library(), capacity)
	if f != api.OK {
		t.Fatal(f)
	}
	return e
}

// library has a procedure that puts a value, one that deletes, and one that adds to what stands there.
func library() []api.Proc {
	return []api.Proc{
		{Name: "put", Program: api.Program{Args: 1, Writes: 1, Code: []api.Instr{{Op: api.IArg}, {Op: api.IPut}}}},
		{Name: "del", Program: api.Program{Writes: 1, Code: []api.Instr{{Op: api.IDel}}}},
		{Name: "add", Program: api.Program{Args: 1, Reads: 1, Writes: 1, Code: []api.Instr{{Op: api.IArg}, {Op: api.IGet}, {Op: api.IAdd}, {Op: api.IPut}}}},
	}
}
