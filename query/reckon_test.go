package query_test

import (
	"math"
	"math/big"
	"testing"

	"prelude/api"
	"prelude/query"
)

// edges is numbers at which reckoning turns.
func edges() []int64 {
	return []int64{math.MinInt64, math.MinInt64 + 1, -1 << 32, -7, -2, -1, 0, 1, 2, 3, 7, 1 << 31, 1 << 32, 1 << 62, math.MaxInt64 - 1, math.MaxInt64}
}

// reckoned is what a tree is at a row, by Over.
func reckoned(t *testing.T, x *tree, row api.Row) int64 {
	t.Helper()
	q := whole(row.Key.Table)
	q.items = []shows{{of: x}}
	lines, e := query.Over(q.query(), []api.Row{row})
	if e != api.OK || len(lines) != 1 || len(lines[0]) != 1 || !lines[0][0].Is {
		t.Fatalf("%v, %d", lines, e)
	}
	return lines[0][0].Value
}

// 21.4: each kind of term at all edges.
func TestReckoning(t *testing.T) {
	for _, a := range edges() {
		for _, b := range edges() {
			row := api.Row{Key: api.Key{Table: 3, Row: a}, Value: b}
			for op := range 18 {
				x := &tree{op: op, l: &tree{op: api.QRow}, r: &tree{op: api.QValue}}
				switch sizeOf(op) {
				case 0:
					x.l, x.r = nil, nil
				case 1:
					x.r = nil
				}
				if got, want := reckoned(t, x, row), x.at(row); got != want {
					t.Errorf("%d of %d and %d: %d, want %d", op, a, b, got, want)
				}
			}
		}
	}
}

// 21.4: what the chapter names.
func TestReckoningByName(t *testing.T) {
	const least, most = math.MinInt64, math.MaxInt64
	row, value := &tree{op: api.QRow}, &tree{op: api.QValue}
	for _, c := range []struct {
		op         int
		a, b, want int64
	}{
		{api.QDiv, 5, 0, 0}, {api.QMod, 5, 0, 0}, {api.QDiv, least, 0, 0}, {api.QMod, least, 0, 0}, {api.QDiv, 0, 0, 0},
		{api.QDiv, least, -1, least}, {api.QMod, least, -1, 0},
		{api.QDiv, 7, -2, -3}, {api.QDiv, -7, 2, -3}, {api.QMod, 7, -2, 1}, {api.QMod, -7, 2, -1}, {api.QMod, -1, 2, -1},
		{api.QAdd, most, 1, least}, {api.QAdd, least, -1, most}, {api.QAdd, least, least, 0},
		{api.QSub, least, 1, most}, {api.QSub, 0, least, least}, {api.QMul, least, -1, least}, {api.QMul, 1 << 32, 1 << 32, 0}, {api.QMul, 1 << 62, 2, least},
		{api.QOr, 0, 0, 0}, {api.QOr, 0, -3, 1}, {api.QOr, 5, 0, 1}, {api.QOr, 2, 4, 1},
		{api.QAnd, 0, 0, 0}, {api.QAnd, 0, -3, 0}, {api.QAnd, 5, 0, 0}, {api.QAnd, 2, 4, 1},
		{api.QEq, 3, 3, 1}, {api.QEq, 3, 4, 0}, {api.QNe, 3, 3, 0}, {api.QNe, 3, 4, 1},
		{api.QLt, least, most, 1}, {api.QLt, 3, 3, 0}, {api.QLt, most, least, 0}, {api.QLe, 3, 3, 1}, {api.QLe, most, least, 0}, {api.QLe, 2, 3, 1},
		{api.QGt, most, least, 1}, {api.QGt, 3, 3, 0}, {api.QGt, least, most, 0}, {api.QGe, 3, 3, 1}, {api.QGe, least, most, 0}, {api.QGe, 4, 3, 1},
	} {
		if got := reckoned(t, &tree{op: c.op, l: row, r: value}, api.Row{Key: api.Key{Row: c.a}, Value: c.b}); got != c.want {
			t.Errorf("%d of %d and %d: %d, want %d", c.op, c.a, c.b, got, c.want)
		}
	}
	for _, c := range [][3]int64{{api.QNot, 0, 1}, {api.QNot, 1, 0}, {api.QNot, -5, 0}, {api.QNot, least, 0}, {api.QNeg, 5, -5}, {api.QNeg, 0, 0}, {api.QNeg, least, least}, {api.QNeg, most, -most}} {
		if got := reckoned(t, &tree{op: int(c[0]), l: row}, api.Row{Key: api.Key{Row: c[1]}}); got != c[2] {
			t.Errorf("%d of %d: %d, want %d", c[0], c[1], got, c[2])
		}
	}
}

// 21.4: any trees at any rows; and their terms in any order.
func TestAnyReckoning(t *testing.T) {
	m := newMaker(214)
	for range 20000 {
		x := m.tree(6)
		if len(laid(x)) > api.MaxTerms {
			continue
		}
		row := api.Row{Key: api.Key{Table: 3, Row: m.edge()}, Value: m.edge()}
		if got, want := reckoned(t, x, row), x.at(row); got != want {
			text, _ := x.text()
			t.Fatalf("%s at %v: %d, want %d", text, row, got, want)
		}
	}
}

// laid is a tree's terms.
func laid(x *tree) []api.Term {
	var l layer
	l.lay(x)
	return l.terms
}

// 21.4, 21.5: sums wrap round, beyond all bounds too.
func TestSumsWrap(t *testing.T) {
	m := newMaker(2141)
	q := parsed(t, "from 3 show sum value, sum row * value, sum 9223372036854775807, sum - value")
	for range 300 {
		sums := make([]*big.Int, 4)
		for i := range sums {
			sums[i] = new(big.Int)
		}
		var rows []api.Row
		for range m.Intn(30) {
			k, v := int64(m.Uint64()), int64(m.Uint64())
			rows = append(rows, api.Row{Key: api.Key{Table: 3, Row: k}, Value: v})
			for i, n := range []*big.Int{big.NewInt(v), new(big.Int).Mul(big.NewInt(k), big.NewInt(v)), big.NewInt(math.MaxInt64), new(big.Int).Neg(big.NewInt(v))} {
				sums[i].Add(sums[i], n)
			}
		}
		lines, _ := query.Over(q, rows)
		for i, n := range sums {
			if lines[0][i] != (api.Cell{Is: true, Value: wrapped(n)}) {
				t.Errorf("%v, want %v", lines, n)
			}
		}
	}
}
