package query_test

import (
	"errors"
	"math"
	"reflect"
	"strings"
	"testing"

	"prelude/api"
	"prelude/codec"
	"prelude/query"
)

// few is the rows of the chapter's examples.
func few() []api.Row {
	return []api.Row{
		{Key: api.Key{Table: 3, Row: 1}, Value: 10},
		{Key: api.Key{Table: 3, Row: 2}, Value: 5},
		{Key: api.Key{Table: 3, Row: 3}, Value: 10},
		{Key: api.Key{Table: 4, Row: 1}, Value: 7},
	}
}

// parsed asks that a text is a query, and is that.
func parsed(t *testing.T, text string) api.Query {
	t.Helper()
	q, err := query.Parse(text)
	if err != nil {
		t.Fatalf("Parse(%q): %v", text, err)
	}
	return q
}

// refused asks that a text is no query, by an error at a place.
func refused(t *testing.T, text string, line, col int, want api.Errno) {
	t.Helper()
	q, err := query.Parse(text)
	pos, ok := err.(*api.PosError)
	if !ok || pos.Line != line || pos.Col != col || pos.Err != error(want) || !errors.Is(err, want) || !reflect.DeepEqual(q, api.Query{}) {
		t.Errorf("Parse(%.120q): %v, %v, want %d:%d: %v", text, q, err, line, col, want)
	}
}

// told is lines as text.
func told(lines [][]api.Cell) string {
	var list []string
	for _, line := range lines {
		var cells []string
		for _, c := range line {
			switch {
			case c.Is:
				cells = append(cells, codec.Digits(c.Value))
			case c.Value != 0:
				cells = append(cells, "nothing with a value")
			default:
				cells = append(cells, "nothing")
			}
		}
		list = append(list, strings.Join(cells, " "))
	}
	return strings.Join(list, "; ")
}

// over is a text's answer over some rows.
func over(t *testing.T, text string, rows []api.Row) string {
	t.Helper()
	lines, e := query.Over(parsed(t, text), rows)
	if e != api.OK {
		t.Fatalf("Over(%q): %v", text, e)
	}
	return told(lines)
}

// answers asks for a text's answer over the examples' rows.
func answers(t *testing.T, text, want string) {
	t.Helper()
	if got := over(t, text, few()); got != want {
		t.Errorf("%s: %s, want %s", text, got, want)
	}
}

// says asks for a query's text.
func says(t *testing.T, q api.Query, want string) {
	t.Helper()
	if text, e := query.Text(q); text != want || e != api.OK {
		t.Errorf("Text(%v): %q, %d, want %q", q, text, e, want)
	}
}

// narrows asks for the text of a narrowed text.
func narrows(t *testing.T, text, want string) {
	t.Helper()
	q, e := query.Narrow(parsed(t, text))
	if e != api.OK {
		t.Fatalf("Narrow(%q): %d", text, e)
	}
	says(t, q, want)
}

// 21.5: the chapter's examples 1 to 3.
func TestExamplesOfAnswers(t *testing.T) {
	answers(t, "from 3 show row, value", "1 10; 2 5; 3 10")
	answers(t, "from 3 rows 2 to 3 show value + 1", "6; 11")
	answers(t, "from 5 show row", "")
	answers(t, "from 3 where value > 5 show count, sum value, min row, max row", "2 20 1 3")
	answers(t, "from 5 show count, min value", "0 nothing")
	answers(t, "from 3 group value show count sort 1 desc", "10 2; 5 1")
	answers(t, "from 3 group value show count sort 1 desc limit 1", "10 2")
	answers(t, "from 3 show 1 + 2 * 3 - -1 % 2, !value", "8 0; 8 0; 8 0")
}

// 21.2: the chapter's example 4.
func TestExamplesOfErrors(t *testing.T) {
	refused(t, "from 3 limit 1", 1, 8, api.ErrQuery)
	refused(t, "from 3 show row sort 2", 1, 1, api.ErrSorts)
	refused(t, "from 3 show row, count", 1, 1, api.ErrItems)
	refused(t, "from x", 1, 6, api.ErrQuery)
	refused(t, "from 3 show $", 1, 13, api.ErrQuery)
}

// 21.3, 21.6: the chapter's examples 5 and 6.
func TestExamplesOfTexts(t *testing.T) {
	says(t, parsed(t, "from 3 show row, value"), "from 3 show row , value")
	says(t, parsed(t, "from 3 where value>5&&row==1 show -row"), "from 3 where ( ( value > 5 ) && ( row == 1 ) ) show - row")
	narrows(t, "from 3 where value > 5 && row >= 2 && 9 > row show row", "from 3 rows 2 to 8 where ( value > 5 ) show row")
	narrows(t, "from 3 where row < 2 where row > 4 show row", "from 3 where ( row < 2 ) where ( row > 4 ) show row")
}

// 21.2: what a text says is where the chapter says it.
func TestFields(t *testing.T) {
	all := api.Query{Table: 7, From: math.MinInt64, To: math.MaxInt64, Group: -1, Items: []api.Item{{Kind: api.ItemCount}}, Limit: -1}
	for text, want := range map[string]func(q *api.Query){
		"from 7 show count":                                                  func(q *api.Query) {},
		"from 65535 show count":                                              func(q *api.Query) { q.Table = api.MaxTable },
		"from 0 rows 1 to 2 show count":                                      func(q *api.Query) { q.Table, q.From, q.To = 0, 1, 2 },
		"from 7 rows - 1 to -1 show count":                                   func(q *api.Query) { q.From, q.To = -1, -1 },
		"from 7 rows -0 to 0 show count":                                     func(q *api.Query) { q.From, q.To = 0, 0 },
		"from 7 show count limit 0":                                          func(q *api.Query) { q.Limit = 0 },
		"from 7 show count limit 9":                                          func(q *api.Query) { q.Limit = 9 },
		"from 7 show count sort 1":                                           func(q *api.Query) { q.Sorts = []api.Sort{{Column: 1}} },
		"from 7 show count sort 1 desc":                                      func(q *api.Query) { q.Sorts = []api.Sort{{Column: 1, Desc: true}} },
		"from 7 show count limit 007":                                        func(q *api.Query) { q.Limit = 7 },
		"from 0000000000000007 show count":                                   func(q *api.Query) {},
		"from 7 show row":                                                    func(q *api.Query) { q.Items, q.Terms = []api.Item{{}}, []api.Term{{Op: api.QRow}} },
		"from 7 show sum value":                                              func(q *api.Query) { q.Items[0].Kind, q.Terms = api.ItemSum, []api.Term{{Op: api.QValue}} },
		"from 7 show min 6":                                                  func(q *api.Query) { q.Items[0].Kind, q.Terms = api.ItemMin, []api.Term{{Num: 6}} },
		"from 7 show max 0":                                                  func(q *api.Query) { q.Items[0].Kind, q.Terms = api.ItemMax, []api.Term{{}} },
		"from 7 group row show count":                                        func(q *api.Query) { q.Group, q.Terms = 0, []api.Term{{Op: api.QRow}} },
		"from 7 where row show count":                                        func(q *api.Query) { q.Where, q.Terms = []int{0}, []api.Term{{Op: api.QRow}} },
		"from 7 where(((row)))show count":                                    func(q *api.Query) { q.Where, q.Terms = []int{0}, []api.Term{{Op: api.QRow}} },
		"from7rows1to2show count sort1desc":                                  func(q *api.Query) { q.From, q.To, q.Sorts = 1, 2, []api.Sort{{Column: 1, Desc: true}} },
		"from 7 show count, count":                                           func(q *api.Query) { q.Items = append(q.Items, q.Items[0]) },
		"from 7 show count sort 1 sort 1":                                    func(q *api.Query) { q.Sorts = []api.Sort{{Column: 1}, {Column: 1}} },
		"from 7 where 1 where 2 show count":                                  func(q *api.Query) { q.Where, q.Terms = []int{0, 1}, []api.Term{{Num: 1}, {Num: 2}} },
		"from 7 rows -9223372036854775807 to 9223372036854775807 show count": func(q *api.Query) { q.From++ },
	} {
		q := all
		q.Items = []api.Item{{Kind: api.ItemCount}}
		want(&q)
		same(t, text, parsed(t, text), q)
	}
}

// same asks that two queries are one; lists that are empty are.
func same(t *testing.T, what string, got, want api.Query) {
	t.Helper()
	if !reflect.DeepEqual(plain(got), plain(want)) {
		t.Errorf("%s: %+v, want %+v", what, got, want)
	}
}

// plain is a query whose empty lists are nil.
func plain(q api.Query) api.Query {
	q.Where = append([]int(nil), q.Where...)
	q.Items = append([]api.Item(nil), q.Items...)
	q.Sorts = append([]api.Sort(nil), q.Sorts...)
	q.Terms = append([]api.Term(nil), q.Terms...)
	return q
}

// 21.2: terms stand in the order in which their reading ends, those of the whole text one behind the other.
func TestOrderOfTerms(t *testing.T) {
	q := parsed(t, "from 1 where !row < 5 group -(1 - value) show sum row * 2 + 3, max value sort 1")
	want := []api.Term{
		{Op: api.QRow}, {Op: api.QNot, L: 0}, {Num: 5}, {Op: api.QLt, L: 1, R: 2},
		{Num: 1}, {Op: api.QValue}, {Op: api.QSub, L: 4, R: 5}, {Op: api.QNeg, L: 6},
		{Op: api.QRow}, {Num: 2}, {Op: api.QMul, L: 8, R: 9}, {Num: 3}, {Op: api.QAdd, L: 10, R: 11},
		{Op: api.QValue},
	}
	items := []api.Item{{Kind: api.ItemSum, Term: 12}, {Kind: api.ItemMax, Term: 13}}
	if !reflect.DeepEqual(q.Terms, want) || !reflect.DeepEqual(q.Where, []int{3}) || q.Group != 7 || !reflect.DeepEqual(q.Items, items) {
		t.Errorf("%+v", q)
	}
}
