package query_test

import (
	"math/big"
	"slices"
	"strconv"
	"strings"

	"prelude/api"
)

// What the chapter says, taken by the letter, on trees.

// wrapped is the int64 that a number wraps round to.
func wrapped(n *big.Int) int64 {
	low := new(big.Int).And(n, new(big.Int).SetUint64(1<<64-1))
	return int64(low.Uint64())
}

// yes is 1 for yes and 0 for no.
func yes(is bool) int64 {
	if is {
		return 1
	}
	return 0
}

// at is what a tree is at a row.
func (t *tree) at(row api.Row) int64 {
	switch t.op {
	case api.QNum:
		return t.num
	case api.QRow:
		return row.Key.Row
	case api.QValue:
		return row.Value
	case api.QNot:
		return 1 - yes(t.l.at(row) != 0)
	case api.QNeg:
		return wrapped(new(big.Int).Neg(big.NewInt(t.l.at(row))))
	}
	return between(t.op, t.l.at(row), t.r.at(row))
}

// between is what is reckoned from two numbers.
func between(op int, x, y int64) int64 {
	a, b, c := big.NewInt(x), big.NewInt(y), new(big.Int)
	order := a.Cmp(b)
	switch op {
	case api.QOr:
		return yes(!(x == 0 && y == 0))
	case api.QAnd:
		return yes(!(x == 0 || y == 0))
	case api.QEq:
		return yes(order == 0)
	case api.QNe:
		return yes(order != 0)
	case api.QLt:
		return yes(order == -1)
	case api.QLe:
		return yes(order != 1)
	case api.QGt:
		return yes(order == 1)
	case api.QGe:
		return yes(order != -1)
	case api.QAdd:
		return wrapped(c.Add(a, b))
	case api.QSub:
		return wrapped(c.Sub(a, b))
	case api.QMul:
		return wrapped(c.Mul(a, b))
	}
	if y == 0 {
		return 0
	}
	if op == api.QDiv {
		return wrapped(c.Quo(a, b))
	}
	return wrapped(c.Rem(a, b))
}

// looked is the rows that the question looks at.
func (q question) looked(rows []api.Row) []api.Row {
	var list []api.Row
	for _, row := range rows {
		is := row.Key.Table == q.table && !(row.Key.Row < q.from) && !(row.Key.Row > q.to)
		for _, t := range q.where {
			is = is && t.at(row) != 0
		}
		if is {
			list = append(list, row)
		}
	}
	return list
}

// gathered is an item over some rows.
func (i shows) gathered(rows []api.Row) api.Cell {
	var values []int64
	sum := new(big.Int)
	for _, row := range rows {
		if i.of != nil {
			values = append(values, i.of.at(row))
			sum.Add(sum, big.NewInt(i.of.at(row)))
		}
	}
	switch {
	case i.kind == api.ItemCount:
		return api.Cell{Is: true, Value: int64(len(rows))}
	case i.kind == api.ItemSum:
		return api.Cell{Is: true, Value: wrapped(sum)}
	case len(values) == 0:
		return api.Cell{}
	case i.kind == api.ItemMin:
		return api.Cell{Is: true, Value: slices.Min(values)}
	}
	return api.Cell{Is: true, Value: slices.Max(values)}
}

// over is the question's answer over some rows.
func (q question) over(rows []api.Row) [][]api.Cell {
	rows = q.looked(rows)
	var lines [][]api.Cell
	switch {
	case q.items[0].kind == api.ItemTerm:
		for _, row := range rows {
			var line []api.Cell
			for _, i := range q.items {
				line = append(line, api.Cell{Is: true, Value: i.of.at(row)})
			}
			lines = append(lines, line)
		}
	case q.group == nil:
		lines = append(lines, q.line(rows))
	default:
		var values []int64
		for _, row := range rows {
			values = append(values, q.group.at(row))
		}
		slices.Sort(values)
		for _, v := range slices.Compact(values) {
			of := slices.DeleteFunc(slices.Clone(rows), func(row api.Row) bool { return q.group.at(row) != v })
			lines = append(lines, append([]api.Cell{{Is: true, Value: v}}, q.line(of)...))
		}
	}
	q.sort(lines)
	if q.limit != -1 && q.limit < len(lines) {
		lines = lines[:q.limit]
	}
	return lines
}

// line is the items over some rows.
func (q question) line(rows []api.Row) []api.Cell {
	var line []api.Cell
	for _, i := range q.items {
		line = append(line, i.gathered(rows))
	}
	return line
}

// sort sorts lines: two neighbours change places as long as one is ahead of the one before it.
func (q question) sort(lines [][]api.Cell) {
	for done := false; !done; {
		done = true
		for i := 1; i < len(lines); i++ {
			if q.ahead(lines[i], lines[i-1]) {
				lines[i], lines[i-1] = lines[i-1], lines[i]
				done = false
			}
		}
	}
}

// ahead tells whether a line is ahead of another one by the sorts.
func (q question) ahead(a, b []api.Cell) bool {
	for _, s := range q.sorts {
		x, y := a[s.Column-1], b[s.Column-1]
		if x == y {
			continue
		}
		less := x.Value < y.Value
		if x.Is != y.Is {
			less = y.Is
		}
		return less != s.Desc
	}
	return false
}

// text is the tree's text, and how deep brackets and unary marks stand in it.
func (t *tree) text() (string, int) {
	switch {
	case t.op == api.QNum:
		return strconv.FormatInt(t.num, 10), 0
	case t.op == api.QRow:
		return "row", 0
	case t.op == api.QValue:
		return "value", 0
	}
	l, deep := t.l.text()
	switch t.op {
	case api.QNot:
		return "! " + l, deep + 1
	case api.QNeg:
		return "- " + l, deep + 1
	}
	r, other := t.r.text()
	return "( " + l + " " + markBetween(t.op) + " " + r + " )", max(deep, other) + 1
}

// text is the question's text, and how deep brackets and unary marks stand in it.
func (q question) text() (string, int) {
	deep := 0
	say := func(t *tree) string {
		s, d := t.text()
		deep = max(deep, d)
		return s
	}
	text := "from " + strconv.Itoa(q.table)
	if all := whole(0); q.from != all.from || q.to != all.to {
		text += strings.ReplaceAll(" rows "+strconv.FormatInt(q.from, 10)+" to "+strconv.FormatInt(q.to, 10), "-", "- ")
	}
	for _, t := range q.where {
		text += " where " + say(t)
	}
	if q.group != nil {
		text += " group " + say(q.group)
	}
	var items []string
	for _, i := range q.items {
		word := map[int]string{api.ItemCount: "count", api.ItemSum: "sum ", api.ItemMin: "min ", api.ItemMax: "max "}[i.kind]
		if i.of != nil {
			word += say(i.of)
		}
		items = append(items, word)
	}
	text += " show " + strings.Join(items, " , ")
	for _, s := range q.sorts {
		text += " sort " + strconv.Itoa(s.Column)
		if s.Desc {
			text += " desc"
		}
	}
	if q.limit != -1 {
		text += " limit " + strconv.Itoa(q.limit)
	}
	return text, deep
}
