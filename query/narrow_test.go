package query_test

import (
	"math"
	"math/big"
	"slices"
	"testing"

	"prelude/api"
	"prelude/query"
)

// 21.6: bounds, each by itself, on both sides of the row.
func TestBounds(t *testing.T) {
	for condition, want := range map[string]string{
		"row == 4": "rows 4 to 4", "4 == row": "rows 4 to 4",
		"row > 4": "rows 5 to 9223372036854775807", "row >= 4": "rows 4 to 9223372036854775807",
		"4 < row": "rows 5 to 9223372036854775807", "4 <= row": "rows 4 to 9223372036854775807",
		"row == 0": "rows 0 to 0", "row > 0": "rows 1 to 9223372036854775807", "0 <= row": "rows 0 to 9223372036854775807",
	} {
		narrows(t, "from 3 where "+condition+" show value", "from 3 "+want+" show value")
	}
	for condition, want := range map[string]string{
		"row == 4": "4 to 4", "4 == row": "4 to 4",
		"row < 4": "- 9 to 3", "row <= 4": "- 9 to 4", "row > 4": "5 to 9", "row >= 4": "4 to 9",
		"4 < row": "5 to 9", "4 <= row": "4 to 9", "4 > row": "- 9 to 3", "4 >= row": "- 9 to 4",
		"row < 0": "- 9 to - 1", "0 >= row": "- 9 to 0", "row == 9": "9 to 9", "row >= 9": "9 to 9", "row > 8": "9 to 9", "row <= 9": "- 9 to 9",
		"row < 10": "- 9 to 9", "row < 9223372036854775807": "- 9 to 9", "row <= 9223372036854775807": "- 9 to 9", "row >= 0": "0 to 9",
		"(row) < ((4))": "- 9 to 3", "row < 004": "- 9 to 3",
	} {
		narrows(t, "from 3 rows -9 to 9 where "+condition+" show value", "from 3 rows "+want+" show value")
	}
	// The rows that are let be may begin at the least one, which no text can say.
	for condition, to := range map[string]int64{"row < 4": 3, "row <= 4": 4, "4 > row": 3, "4 >= row": 4, "row < 0": -1, "row <= 0": 0} {
		q, e := query.Narrow(parsed(t, "from 3 where "+condition+" show value"))
		want := parsed(t, "from 3 show value")
		want.To = to
		same(t, condition, q, want)
		if e != api.OK {
			t.Error(e)
		}
	}
}

// 21.6: what is no bound stays as it is.
func TestNoBounds(t *testing.T) {
	for _, text := range []string{
		"from 3 rows 0 to 9 show row",
		"from 3 rows 0 to 9 where ( row != 4 ) show row",
		"from 3 rows 0 to 9 where ( 4 != row ) show row",
		"from 3 rows 0 to 9 where ( value < 4 ) show row",
		"from 3 rows 0 to 9 where ( value == row ) show row",
		"from 3 rows 0 to 9 where ( row == row ) show row",
		"from 3 rows 0 to 9 where ( 4 == 4 ) show row",
		"from 3 rows 0 to 9 where ( 4 < 3 ) show row",
		"from 3 rows 0 to 9 where ( row > - 4 ) show row",
		"from 3 rows 0 to 9 where ( - row < 4 ) show row",
		"from 3 rows 0 to 9 where ( ( row + 0 ) < 4 ) show row",
		"from 3 rows 0 to 9 where ( row < ( 2 + 2 ) ) show row",
		"from 3 rows 0 to 9 where ( row - 4 ) show row",
		"from 3 rows 0 to 9 where ( row + 4 ) show row",
		"from 3 rows 0 to 9 where ( row || 4 ) show row",
		"from 3 rows 0 to 9 where ( row && 4 ) show row",
		"from 3 rows 0 to 9 where ! ( row < 4 ) show row",
		"from 3 rows 0 to 9 where - ( row < 4 ) show row",
		"from 3 rows 0 to 9 where ! ( ( row < 4 ) && value ) show row",
		"from 3 rows 0 to 9 where ( ( row < 4 ) || ( row > 7 ) ) show row",
		"from 3 rows 0 to 9 where ( ( row < 4 ) == 1 ) show row",
		"from 3 rows 0 to 9 where ( ( row < 4 ) + ( row > 2 ) ) show row",
		"from 3 rows 0 to 9 where ( ( ( row < 4 ) && value ) || ( row > 2 ) ) show row",
		"from 3 rows 0 to 9 where row show row",
		"from 3 rows 0 to 9 where 0 show row",
		"from 3 rows 0 to 9 group ( row < 4 ) show count",
		"from 3 rows 0 to 9 group ( ( row < 4 ) && ( row > 2 ) ) show sum ( row == 3 )",
		"from 3 rows 0 to 9 show ( row < 4 ) , ( row == 3 )",
	} {
		narrows(t, text, text)
		same(t, text, narrowed(t, parsed(t, text)), parsed(t, text))
	}
}

// narrowed is a query, narrowed.
func narrowed(t *testing.T, q api.Query) api.Query {
	t.Helper()
	out, e := query.Narrow(q)
	if e != api.OK {
		t.Fatalf("Narrow(%+v): %d", q, e)
	}
	return out
}

// 21.6: what stays of conditions with && in them.
func TestWhatStays(t *testing.T) {
	for condition, want := range map[string]string{
		"row > 2 && value":                           "rows 3 to 9 where value",
		"value && row > 2":                           "rows 3 to 9 where value",
		"row > 2 && row < 5":                         "rows 3 to 4",
		"value && row":                               "rows 0 to 9 where ( value && row )",
		"value && row > 2 && row":                    "rows 3 to 9 where ( value && row )",
		"value && (row > 2 && row)":                  "rows 3 to 9 where ( value && row )",
		"(row > 2 && value) && (row < 5 && -row)":    "rows 3 to 4 where ( value && - row )",
		"(row > 2 && row < 8) && (row < 5 && 1)":     "rows 3 to 4 where 1",
		"row > 2 && row < 8 && row != 5 && row <= 7": "rows 3 to 7 where ( row != 5 )",
		"(value && row) && (1 && 2)":                 "rows 0 to 9 where ( ( value && row ) && ( 1 && 2 ) )",
		"(value || row > 2) && row < 4":              "rows 0 to 3 where ( value || ( row > 2 ) )",
		"!(value && row > 2) && row < 4":             "rows 0 to 3 where ! ( value && ( row > 2 ) )",
		"row < 4 where value where row > 1":          "rows 2 to 3 where value",
		"value where row < 4 where row where 7":      "rows 0 to 3 where value where row where 7",
		"row < 4 && row > 1 where 2 > row":           "rows 0 to 9 where ( ( row < 4 ) && ( row > 1 ) ) where ( 2 > row )",
		"row == 4 where row >= 4 where row <= 4":     "rows 4 to 4",
		"row < 7 where row < 5 where row < 6":        "rows 0 to 4",
		"row > 3 where row > 5 where row > 4":        "rows 6 to 9",
	} {
		narrows(t, "from 3 rows 0 to 9 where "+condition+" show row", "from 3 "+want+" show row")
	}
	// Terms that are named no more are gone, the others stand in their order, in whatever they are.
	q := parsed(t, "from 3 where row > 2 && value where value % 3 && 9 > row group row < 5 show max row > 1 && value, count")
	mixed := api.Query{Table: 3, From: math.MinInt64, To: math.MaxInt64, Group: 1, Limit: -1, Where: []int{7}, Sorts: []api.Sort{{Column: 2}},
		Items: []api.Item{{Kind: api.ItemCount}, {Kind: api.ItemSum, Term: 4}},
		Terms: []api.Term{{Num: 6}, {Op: api.QValue}, {Op: api.QRow}, {Op: api.QValue}, {Num: 8}, {Op: api.QGe, L: 2, R: 0}, {Op: api.QNeg, L: 3}, {Op: api.QAnd, L: 5, R: 6}}}
	want := mixed
	want.From, want.Where, want.Group, want.Items = 6, []int{3}, 0, []api.Item{{Kind: api.ItemCount}, {Kind: api.ItemSum, Term: 2}}
	want.Terms = []api.Term{{Op: api.QValue}, {Op: api.QValue}, {Num: 8}, {Op: api.QNeg, L: 1}}
	same(t, "mixed", narrowed(t, mixed), want)
	says(t, narrowed(t, q), "from 3 rows 3 to 8 where value where ( value % 3 ) group ( row < 5 ) show max ( ( row > 1 ) && value ) , count")
}

// 21.6: where no row is let be, the query stays as it is.
func TestNoRowIsLetBe(t *testing.T) {
	for _, text := range []string{
		"from 3 where ( row < 2 ) where ( row > 4 ) show row",
		"from 3 where ( row < 2 ) where ( row > 1 ) show row",
		"from 3 where ( ( row < 2 ) && ( row >= 2 ) ) show row",
		"from 3 where ( row == 2 ) where value where ( row == 3 ) show row",
		"from 3 rows 5 to 9 where ( row < 5 ) show row",
		"from 3 rows 5 to 9 where ( row > 9 ) show row",
		"from 3 rows 5 to 9 where ( 4 == row ) show row",
		"from 3 rows - 9 to - 1 where ( row >= 0 ) show row",
		"from 3 rows - 9 to - 1 where ( ( value && ( row == 0 ) ) && row ) show row",
		"from 3 where ( row > 9223372036854775807 ) show row",
		"from 3 where ( 9223372036854775807 < row ) where value show row",
		"from 3 rows 0 to 9 where ( row > 9223372036854775807 ) where ( row < 4 ) show row",
		"from 3 rows 9223372036854775807 to 9223372036854775807 where ( row < 9223372036854775807 ) show row",
	} {
		narrows(t, text, text)
		same(t, text, narrowed(t, parsed(t, text)), parsed(t, text))
	}
	// Where just one is let be, it is narrowed.
	narrows(t, "from 3 where row >= 9223372036854775807 show row", "from 3 rows 9223372036854775807 to 9223372036854775807 show row")
	narrows(t, "from 3 where row > 9223372036854775806 show row", "from 3 rows 9223372036854775807 to 9223372036854775807 show row")
	narrows(t, "from 3 where row == 9223372036854775807 show row", "from 3 rows 9223372036854775807 to 9223372036854775807 show row")
	narrows(t, "from 3 where row <= 9223372036854775807 show row", "from 3 show row")
	narrows(t, "from 3 rows -3 to 9 where 0 > row where row < 1 && row >= 0 || 1 show row", "from 3 rows - 3 to - 1 where ( ( ( row < 1 ) && ( row >= 0 ) ) || 1 ) show row")
	q := parsed(t, "from 3 where row < 0 show row")
	q.To = math.MinInt64
	want := parsed(t, "from 3 show row")
	want.To = math.MinInt64
	same(t, "the least row", narrowed(t, q), want)
}

// letting is what the letter says of bounds: the rows that are let be.
type letting struct {
	from, to *big.Int
}

// bound takes a bound, and tells whether a tree is one.
func (l *letting) bound(t *tree) bool {
	if sizeOf(t.op) != 2 || t.l.op+t.r.op != api.QRow+api.QNum || t.l.op == t.r.op {
		return false
	}
	op, n := t.op, big.NewInt(t.r.num)
	if t.l.op == api.QNum {
		n = big.NewInt(t.l.num)
		op = map[int]int{api.QEq: api.QEq, api.QLt: api.QGt, api.QGt: api.QLt, api.QLe: api.QGe, api.QGe: api.QLe}[op]
	}
	one := big.NewInt(1)
	from, to := l.from, l.to
	switch op {
	case api.QEq:
		from, to = n, n
	case api.QLt:
		to = new(big.Int).Sub(n, one)
	case api.QLe:
		to = n
	case api.QGt:
		from = new(big.Int).Add(n, one)
	case api.QGe:
		from = n
	default:
		return false
	}
	if from.Cmp(l.from) > 0 {
		l.from = from
	}
	if to.Cmp(l.to) < 0 {
		l.to = to
	}
	return true
}

// stays is what stays of a condition, nil if nothing does.
func (l *letting) stays(t *tree) *tree {
	switch {
	case l.bound(t):
		return nil
	case t.op != api.QAnd:
		return t
	}
	x, y := l.stays(t.l), l.stays(t.r)
	switch {
	case x == nil:
		return y
	case y == nil:
		return x
	}
	return &tree{op: t.op, l: x, r: y, place: t.place}
}

// narrow is a sound query, narrowed by the letter.
func narrow(q api.Query) api.Query {
	x := asked(q)
	l := letting{big.NewInt(q.From), big.NewInt(q.To)}
	x.where = nil
	for _, at := range q.Where {
		if rest := l.stays(grown(q.Terms, at)); rest != nil {
			x.where = append(x.where, rest)
		}
	}
	if l.from.Cmp(l.to) > 0 {
		return q
	}
	x.from, x.to = l.from.Int64(), l.to.Int64()
	return x.placed()
}

// placed is the question's query with its terms in the order of their places.
func (q question) placed() api.Query {
	var roots, all []*tree
	roots = append(roots, q.where...)
	if q.group != nil {
		roots = append(roots, q.group)
	}
	for _, i := range q.items {
		if i.of != nil {
			roots = append(roots, i.of)
		}
	}
	var gather func(t *tree)
	gather = func(t *tree) {
		if t != nil {
			all = append(all, t)
			gather(t.l)
			gather(t.r)
		}
	}
	for _, t := range roots {
		gather(t)
	}
	slices.SortFunc(all, func(a, b *tree) int { return a.place - b.place })
	at := func(t *tree) int { return slices.Index(all, t) }
	out := api.Query{Table: q.table, From: q.from, To: q.to, Group: -1, Sorts: q.sorts, Limit: q.limit}
	for _, t := range all {
		x := api.Term{Op: t.op, Num: t.num}
		if t.l != nil {
			x.L = at(t.l)
		}
		if t.r != nil {
			x.R = at(t.r)
		}
		out.Terms = append(out.Terms, x)
	}
	for _, t := range q.where {
		out.Where = append(out.Where, at(t))
	}
	if q.group != nil {
		out.Group = at(q.group)
	}
	for _, i := range q.items {
		item := api.Item{Kind: i.kind}
		if i.of != nil {
			item.Term = at(i.of)
		}
		out.Items = append(out.Items, item)
	}
	return out
}

// 21.6: any queries, by the letter; what is narrowed is sound, and narrowed no more.
func TestAnyNarrowing(t *testing.T) {
	m := newMaker(216)
	fewer, bounds := 0, 0
	for range 20000 {
		x := m.question()
		for range m.Intn(5) {
			x.where = append(x.where, m.condition(5))
		}
		q := m.shuffled(x.query())
		got, e := query.Narrow(q)
		same(t, "narrowed", got, narrow(q))
		if f := query.Check(got); e != api.OK || f != api.OK {
			t.Fatalf("%d, %d", e, f)
		}
		same(t, "narrowed twice", narrowed(t, got), got)
		if got.To-got.From != q.To-q.From {
			fewer++
		}
		if len(got.Where) < len(q.Where) {
			bounds++
		}
	}
	if fewer < 3000 || bounds < 3000 {
		t.Errorf("%d are of fewer rows, %d have fewer conditions", fewer, bounds)
	}
}

// 21.6, 21.8: the greatest trees that may be.
func TestNarrowOfMany(t *testing.T) {
	// 64 bounds in a row of &&, on the left and on the right side of one another.
	for _, right := range []bool{false, true} {
		q := parsed(t, "from 3 where 0 < row show row")
		for i := range 61 {
			n := len(q.Terms)
			q.Terms = append(q.Terms, api.Term{Num: int64(i)}, api.Term{Op: api.QRow}, api.Term{Op: api.QLt, L: n, R: n + 1}, api.Term{Op: api.QAnd, L: q.Where[0], R: n + 2})
			if right {
				q.Terms[n+3].L, q.Terms[n+3].R = n+2, q.Where[0]
			}
			q.Where[0] = n + 3
		}
		want := parsed(t, "from 3 rows 61 to 9223372036854775807 show row")
		same(t, "many", narrowed(t, q), want)
		q.Terms[0] = api.Term{Op: api.QValue}
		want = parsed(t, "from 3 rows 61 to 9223372036854775807 where value < row show row")
		got := narrowed(t, q)
		text, _ := query.Text(got)
		again, _ := query.Text(want)
		if text != again {
			t.Errorf("%q, want %q", text, again)
		}
	}
}
