package query_test

import (
	"math"
	"slices"
	"strings"
	"testing"

	"prelude/api"
	"prelude/query"
)

// list is rows of table 3, each a row and a value.
func list(pairs ...int64) []api.Row {
	var out []api.Row
	for i := 0; i < len(pairs); i += 2 {
		out = append(out, api.Row{Key: api.Key{Table: 3, Row: pairs[i]}, Value: pairs[i+1]})
	}
	return out
}

// overs asks for a text's answer over some rows.
func overs(t *testing.T, text string, rows []api.Row, want string) {
	t.Helper()
	if got := over(t, text, rows); got != want {
		t.Errorf("%s over %v: %s, want %s", text, rows, got, want)
	}
}

// 21.5: the rows that are looked at: of the table, in the range, both ends of it too, in the order in which they stand, each as often as it stands.
func TestLookedAt(t *testing.T) {
	rows := append(list(5, 50, 1, 10, 3, 30, 5, 51, -2, -20, 3, 30),
		api.Row{Key: api.Key{Table: 2, Row: 3}, Value: 1}, api.Row{Key: api.Key{Table: 4, Row: 3}, Value: 2}, api.Row{Key: api.Key{Table: -3, Row: 3}, Value: 3}, api.Row{Key: api.Key{Table: 3 + api.MaxTable + 1, Row: 3}, Value: 4})
	overs(t, "from 3 show row, value", rows, "5 50; 1 10; 3 30; 5 51; -2 -20; 3 30")
	overs(t, "from 3 rows 1 to 3 show value", rows, "10; 30; 30")
	overs(t, "from 3 rows 2 to 2 show value", rows, "")
	overs(t, "from 3 rows -2 to -2 show value", rows, "-20")
	overs(t, "from 3 rows 5 to 9223372036854775807 show value", rows, "50; 51")
	overs(t, "from 2 show value", rows, "1")
	overs(t, "from 4 rows 3 to 3 show row, value, 7", rows, "3 2 7")
	overs(t, "from 0 show value", rows, "")
	overs(t, "from 65535 show value", rows, "")
	overs(t, "from 3 show value", nil, "")
	ends := list(math.MinInt64, 1, math.MaxInt64, 2, math.MinInt64+1, 3, math.MaxInt64-1, 4)
	overs(t, "from 3 show value", ends, "1; 2; 3; 4")
	overs(t, "from 3 rows -9223372036854775807 to 9223372036854775806 show value", ends, "3; 4")
	for _, row := range []int64{math.MinInt64, math.MaxInt64} {
		q := parsed(t, "from 3 show count")
		q.From, q.To = row, row
		if lines, e := query.Over(q, ends); e != api.OK || told(lines) != "1" {
			t.Errorf("%v, %d", lines, e)
		}
	}
}

// 21.5: conditions: none of them may be 0.
func TestConditions(t *testing.T) {
	rows := list(1, 10, 2, 0, 3, -5, 4, math.MinInt64, 5, 2)
	overs(t, "from 3 where value show row", rows, "1; 3; 4; 5")
	overs(t, "from 3 where -value show row", rows, "1; 3; 4; 5")
	overs(t, "from 3 where !value show row", rows, "2")
	overs(t, "from 3 where value where row % 2 show row", rows, "1; 3; 5")
	overs(t, "from 3 where value > 0 && row % 2 where row - 1 show row", rows, "5")
	overs(t, "from 3 where 0 show row", rows, "")
	overs(t, "from 3 where 2 where 0 where 1 show row", rows, "")
	overs(t, "from 3 where 0 show count, sum row, min row, max row", rows, "0 0 nothing nothing")
	overs(t, "from 3 where 0 group row show count", rows, "")
	overs(t, "from 3 rows 2 to 5 where 1 where row != 4 show row", rows, "2; 3; 5")
	overs(t, "from 3"+strings.Repeat(" where row - 1", 7)+" where value show row", rows, "3; 4; 5")
}

// 21.5: one line of all rows.
func TestGathered(t *testing.T) {
	rows := list(1, 10, 2, -3, 3, 10, 4, 0)
	overs(t, "from 3 show count", rows, "4")
	overs(t, "from 3 show sum value, min value, max value, count, sum row, min -row, max -row", rows, "17 -3 10 4 10 -4 -1")
	overs(t, "from 3 show count, count, sum 1, min 5, max 5", rows, "4 4 4 5 5")
	overs(t, "from 3 rows 2 to 2 show min value, max value, sum value", rows, "-3 -3 -3")
	overs(t, "from 3 rows 4 to 4 show min value, max value, sum value", rows, "0 0 0")
	overs(t, "from 3 show count, sum value, min value, max value", nil, "0 0 nothing nothing")
	overs(t, "from 3 show max value", list(1, math.MinInt64), "-9223372036854775808")
	overs(t, "from 3 show min value", list(1, math.MaxInt64), "9223372036854775807")
	overs(t, "from 3 show min value, max value", list(1, math.MaxInt64, 2, math.MinInt64), "-9223372036854775808 9223372036854775807")
	overs(t, "from 3 show max value, min value", list(1, -5, 2, -4, 3, -6), "-4 -6")
	// One line is a line: sorts and the limit have to do with it too.
	overs(t, "from 3 show count sort 1 desc limit 1", rows, "4")
	overs(t, "from 3 show count limit 0", rows, "")
	overs(t, "from 3 show min row, count sort 1 sort 2 desc", nil, "nothing 0")
}

// 21.5: groups.
func TestGrouped(t *testing.T) {
	rows := list(1, 10, 2, -3, 3, 10, 4, 0, 5, -3, 6, -3)
	overs(t, "from 3 group value show count", rows, "-3 3; 0 1; 10 2")
	overs(t, "from 3 group value show sum row, min row, max row, count", rows, "-3 13 2 6 3; 0 4 4 4 1; 10 4 1 3 2")
	overs(t, "from 3 group row % 2 show sum value", rows, "0 -6; 1 17")
	overs(t, "from 3 group 7 show count", rows, "7 6")
	overs(t, "from 3 group row show max value", rows, "1 10; 2 -3; 3 10; 4 0; 5 -3; 6 -3")
	overs(t, "from 3 group value show count", nil, "")
	overs(t, "from 3 where value > 0 group value show count", rows, "10 2")
	overs(t, "from 3 group value show count", list(1, math.MaxInt64, 2, math.MinInt64, 3, 0, 4, -1), "-9223372036854775808 1; -1 1; 0 1; 9223372036854775807 1")
	overs(t, "from 3 group value show count sort 2", rows, "0 1; 10 2; -3 3")
	overs(t, "from 3 group value show count sort 2 desc", rows, "-3 3; 10 2; 0 1")
	overs(t, "from 3 group row show max value sort 2", rows, "2 -3; 5 -3; 6 -3; 4 0; 1 10; 3 10")
	overs(t, "from 3 group row show max value sort 2 desc limit 3", rows, "1 10; 3 10; 4 0")
	overs(t, "from 3 group value show count limit 2", rows, "-3 3; 0 1")
}

// 21.5: lines are sorted by the columns, one behind the other; those that agree stay in their order.
func TestSorted(t *testing.T) {
	rows := list(4, 1, 2, 2, 9, 1, 1, 2, 5, 1, 7, 0)
	overs(t, "from 3 show value, row", rows, "1 4; 2 2; 1 9; 2 1; 1 5; 0 7")
	overs(t, "from 3 show value, row sort 1", rows, "0 7; 1 4; 1 9; 1 5; 2 2; 2 1")
	overs(t, "from 3 show value, row sort 1 desc", rows, "2 2; 2 1; 1 4; 1 9; 1 5; 0 7")
	overs(t, "from 3 show value, row sort 1 sort 2", rows, "0 7; 1 4; 1 5; 1 9; 2 1; 2 2")
	overs(t, "from 3 show value, row sort 1 sort 2 desc", rows, "0 7; 1 9; 1 5; 1 4; 2 2; 2 1")
	overs(t, "from 3 show value, row sort 1 desc sort 2", rows, "2 1; 2 2; 1 4; 1 5; 1 9; 0 7")
	overs(t, "from 3 show value, row sort 2", rows, "2 1; 2 2; 1 4; 1 5; 0 7; 1 9")
	overs(t, "from 3 show value, row sort 2 desc sort 1", rows, "1 9; 0 7; 1 5; 1 4; 2 2; 2 1")
	overs(t, "from 3 show value, row sort 1 sort 1 desc sort 2", rows, "0 7; 1 4; 1 5; 1 9; 2 1; 2 2")
	overs(t, "from 3 show value, 0 sort 2 desc sort 2", rows, "1 0; 2 0; 1 0; 2 0; 1 0; 0 0")
	overs(t, "from 3 show row sort 1", list(0, 0, math.MinInt64, 0, math.MaxInt64, 0, -1, 0), "-9223372036854775808; -1; 0; 9223372036854775807")
	overs(t, "from 3 show row sort 1 desc", list(0, 0, math.MinInt64, 0, math.MaxInt64, 0, -1, 0), "9223372036854775807; 0; -1; -9223372036854775808")
}

// 21.5: many lines that agree stay in their order.
func TestSortedIsStable(t *testing.T) {
	var rows []api.Row
	for i := range int64(5000) {
		rows = append(rows, list(i*7919%5003, i%3)...)
	}
	for _, text := range []string{"from 3 show value, row sort 1", "from 3 show value, row sort 1 desc"} {
		lines, _ := query.Over(parsed(t, text), rows)
		want := parsed(t, text)
		want.Sorts = nil
		plain, _ := query.Over(want, rows)
		for v := range int64(3) {
			of := func(lines [][]api.Cell) string {
				return told(slices.DeleteFunc(slices.Clone(lines), func(l []api.Cell) bool { return l[0].Value != v }))
			}
			if of(lines) != of(plain) {
				t.Errorf("%s: lines with %d do not stay in their order", text, v)
			}
		}
	}
}

// 21.5, 21.8: the first lines, once they are sorted, and no more than the limit.
func TestLimited(t *testing.T) {
	rows := list(1, 3, 2, 1, 3, 2)
	for limit, want := range map[string]string{"0": "", "1": "2", "2": "2; 3", "3": "2; 3; 1", "4": "2; 3; 1", "9223372036854775807": "2; 3; 1"} {
		overs(t, "from 3 show row, value sort 2 limit "+limit, rows, strings.Join(with(strings.Split(want, "; "), map[string]string{"1": "1 3", "2": "2 1", "3": "3 2", "": ""}), "; "))
	}
	overs(t, "from 3 show row limit 2", rows, "1; 2")
	overs(t, "from 3 show row limit 0", nil, "")
}

// with is texts, each made another one.
func with(list []string, of map[string]string) []string {
	var out []string
	for _, s := range list {
		out = append(out, of[s])
	}
	return out
}

// 21.5, 21.8: any questions over any rows, by the letter; terms in any order; what is narrowed has the same answer.
func TestAnyAnswers(t *testing.T) {
	m := newMaker(215)
	lines := 0
	for range 20000 {
		x := m.question()
		rows := m.rows(30)
		want := x.over(rows)
		q := x.query()
		narrow, e := query.Narrow(q)
		if e != api.OK {
			t.Fatal(e)
		}
		for _, p := range []api.Query{q, m.shuffled(q), narrow} {
			got, e := query.Over(p, rows)
			if e != api.OK || told(got) != told(want) || len(got) != len(want) || x.limit >= 0 && len(got) > x.limit {
				text, _ := x.text()
				t.Fatalf("%s over %v: %s, %d, want %s", text, rows, told(got), e, told(want))
			}
		}
		lines += len(want)
	}
	if lines < 20000 {
		t.Errorf("%d lines", lines)
	}
}
