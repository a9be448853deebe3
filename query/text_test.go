package query_test

import (
	"errors"
	"math"
	"strings"
	"testing"

	"prelude/api"
	"prelude/query"
)

// rewritten asks for the text of a text's query.
func rewritten(t *testing.T, text, want string) {
	t.Helper()
	says(t, parsed(t, text), want)
}

// noText asks that a sound query has no text, by an error.
func noText(t *testing.T, q api.Query, want api.Errno) {
	t.Helper()
	if e := query.Check(q); e != api.OK {
		t.Fatalf("Check(%+v): %d", q, e)
	}
	if text, e := query.Text(q); text != "" || e != want {
		t.Errorf("Text(%+v): %q, %d, want %d", q, text, e, want)
	}
}

// 21.3: each part of the form.
func TestTexts(t *testing.T) {
	for text, want := range map[string]string{
		"from 0 show count":             "from 0 show count",
		"from 65535 show row":           "from 65535 show row",
		"from 3 rows 1to 2 show row":    "from 3 rows 1 to 2 show row",
		"from 3 rows -1 to -0 show row": "from 3 rows - 1 to 0 show row",
		"from 3 rows -9223372036854775807 to 9223372036854775807 show row": "from 3 rows - 9223372036854775807 to 9223372036854775807 show row",
		"from 3 rows 9223372036854775807 to 9223372036854775807 show row":  "from 3 rows 9223372036854775807 to 9223372036854775807 show row",
		"from 3 rows -7 to 9223372036854775807 show row":                   "from 3 rows - 7 to 9223372036854775807 show row",
		"from 3 where row where (value) show row":                          "from 3 where row where value show row",
		"from 3 group 007 show count":                                      "from 3 group 7 show count",
		"from 3 show count,sum row,min 1,max value":                        "from 3 show count , sum row , min 1 , max value",
		"from 3 show row sort 1desc sort 001":                              "from 3 show row sort 1 desc sort 1",
		"from 3 show row limit 0":                                          "from 3 show row limit 0",
		"from 3 show row limit 9223372036854775807":                        "from 3 show row limit 9223372036854775807",
		"from 3 show 9223372036854775807":                                  "from 3 show 9223372036854775807",
		"from 3 show !-!row":                                               "from 3 show ! - ! row",
		"from 3 show -(1+row)*2":                                           "from 3 show ( - ( 1 + row ) * 2 )",
		"from 3 show 1-2-3":                                                "from 3 show ( ( 1 - 2 ) - 3 )",
		"from 3 show 1-(2-3)":                                              "from 3 show ( 1 - ( 2 - 3 ) )",
		"from 3 show 1||2&&3==4!=5<6<=7>8>=9+10-11*12/13%14":               "from 3 show ( 1 || ( 2 && ( ( 3 == 4 ) != ( ( ( ( 5 < 6 ) <= 7 ) > 8 ) >= ( ( 9 + 10 ) - ( ( ( 11 * 12 ) / 13 ) % 14 ) ) ) ) ) )",
		"from 3 rows 1 to 4 where row where 1 group value show max row , count sort 3 sort 1 desc limit 2": "from 3 rows 1 to 4 where row where 1 group value show max row , count sort 3 sort 1 desc limit 2",
	} {
		rewritten(t, text, want)
		rewritten(t, want, want)
	}
}

// 21.3: the least row is no bound; but the whole range is not said.
func TestTextsOfRanges(t *testing.T) {
	q := parsed(t, "from 3 show row")
	for _, r := range [][2]int64{{math.MinInt64, math.MaxInt64 - 1}, {math.MinInt64, 0}, {math.MinInt64, math.MinInt64}, {math.MinInt64, math.MinInt64 + 1}} {
		q.From, q.To = r[0], r[1]
		noText(t, q, api.ErrTable)
	}
	for _, r := range [][2]int64{{math.MinInt64 + 1, math.MaxInt64}, {math.MinInt64 + 1, math.MinInt64 + 1}, {math.MaxInt64, math.MaxInt64}, {-1, 1}} {
		q.From, q.To = r[0], r[1]
		text, e := query.Text(q)
		if e != api.OK {
			t.Errorf("%v: %d", r, e)
		}
		same(t, text, parsed(t, text), q)
	}
	q.From, q.To = math.MinInt64, math.MaxInt64
	says(t, q, "from 3 show row")
}

// left is a query with so many sums, each the left part of the next one.
func left(n int) api.Query {
	q := api.Query{Table: 3, From: math.MinInt64, To: math.MaxInt64, Group: -1, Limit: -1, Items: []api.Item{{Term: 2 * n}}, Terms: []api.Term{{Op: api.QRow}}}
	for i := range n {
		q.Terms = append(q.Terms, api.Term{Op: api.QRow}, api.Term{Op: api.QAdd, L: 2 * i, R: 2*i + 1})
	}
	return q
}

// signs is a query with so many unary marks.
func signs(n int) api.Query {
	q := api.Query{Table: 3, From: math.MinInt64, To: math.MaxInt64, Group: -1, Limit: -1, Items: []api.Item{{Term: n}}, Terms: []api.Term{{Op: api.QRow}}}
	for i := range n {
		q.Terms = append(q.Terms, api.Term{Op: api.QNot + i%2, L: i})
	}
	return q
}

// 21.3: a bracket or a unary mark may stand in 47 such ones, not in 48.
func TestTextsThatAreDeep(t *testing.T) {
	for _, q := range []api.Query{left(48), signs(48), left(1), signs(1), left(0)} {
		text, e := query.Text(q)
		if e != api.OK {
			t.Errorf("%d terms: %d", len(q.Terms), e)
		}
		same(t, text, parsed(t, text), q)
	}
	for _, q := range []api.Query{left(49), signs(49), left(127), signs(255)} {
		noText(t, q, api.ErrLimit)
		// The least row comes ahead of it.
		q.To = 5
		noText(t, q, api.ErrTable)
		q.From = 5
		noText(t, q, api.ErrLimit)
	}
	// What Parse reads can be too deep to be written, as brackets come to stand around each binary term.
	noText(t, parsed(t, "from 3 show row"+strings.Repeat("+1", 49)), api.ErrLimit)
	rewritten(t, "from 3 show 1"+strings.Repeat("+1", 48), "from 3 show "+strings.Repeat("( ", 48)+"1"+strings.Repeat(" + 1 )", 48))
	noText(t, parsed(t, "from 3 where row"+strings.Repeat("+1", 49)+" show row"), api.ErrLimit)
	noText(t, parsed(t, "from 3 group row"+strings.Repeat("+1", 49)+" show count"), api.ErrLimit)
	noText(t, parsed(t, "from 3 show count, sum row"+strings.Repeat("+1", 49)), api.ErrLimit)
	noText(t, parsed(t, "from 3 show "+strings.Repeat("!", 47)+"(1+1)+1"), api.ErrLimit)
	// On the right side as on the left one; and what stands beside does not count.
	noText(t, parsed(t, "from 3 show "+strings.Repeat("1-(", 48)+"1-1"+strings.Repeat(")", 48)), api.ErrLimit)
	rewritten(t, "from 3 show "+strings.Repeat("1-(", 47)+"1-1"+strings.Repeat(")", 47), "from 3 show "+strings.Repeat("( 1 - ", 48)+"1"+strings.Repeat(" )", 48))
	long := "( " + strings.Repeat("- ", 47) + "row * " + strings.Repeat("! ", 47) + "value )"
	for _, text := range []string{"from 3 where " + long + " where " + long + " show row", "from 3 group " + long + " show sum " + long, "from 3 show max " + long + " , min " + long} {
		rewritten(t, text, text)
	}
}

// 21.3, W10: any question's text, by the letter; what is written is read again as the query, but for the order of its terms; what is read is written again.
func TestThereAndBack(t *testing.T) {
	m := newMaker(2131)
	written := 0
	for range 20000 {
		x := m.question()
		q := x.query()
		want, deep := x.text()
		mixed := m.shuffled(q)
		if x.from == math.MinInt64 && x.to != math.MaxInt64 {
			noText(t, q, api.ErrTable)
			noText(t, mixed, api.ErrTable)
			continue
		}
		if deep > api.MaxDeep {
			t.Fatalf("%q is %d deep", want, deep)
		}
		says(t, q, want)
		says(t, mixed, want)
		same(t, want, parsed(t, want), q)
		written++
	}
	if written < 15000 {
		t.Errorf("%d are written", written)
	}
}

// long is any tree with one branch of about so many parts.
func (m *maker) long(n int) *tree {
	t := m.single()
	for range n {
		op := 3 + m.Intn(15)
		t = &tree{op: op, l: t}
		if sizeOf(op) == 2 {
			t.r = m.tree(m.Intn(2))
			if m.Intn(2) == 0 {
				t.l, t.r = t.r, t.l
			}
		}
	}
	return t
}

// 21.3: texts about as deep as may be.
func TestThereAndBackDeep(t *testing.T) {
	m := newMaker(2132)
	limits, written := 0, 0
	for range 2000 {
		x := whole(m.Intn(9))
		x.where = append(x.where, m.long(30+m.Intn(20)))
		x.items = []shows{{kind: api.ItemSum, of: m.long(40 + m.Intn(12))}}
		q := m.shuffled(x.query())
		want, deep := x.text()
		switch {
		case query.Check(q) != api.OK: // there are too many terms
		case deep > api.MaxDeep:
			noText(t, q, api.ErrLimit)
			if _, err := query.Parse(want); !errors.Is(err, api.ErrLimit) {
				t.Errorf("Parse(%q): %v", want, err)
			}
			limits++
		default:
			says(t, q, want)
			same(t, want, parsed(t, want), x.query())
			written++
		}
	}
	if limits < 200 || written < 200 {
		t.Errorf("%d are too deep, %d are written", limits, written)
	}
}
