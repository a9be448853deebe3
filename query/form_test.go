package query_test

import (
	"errors"
	"slices"
	"strconv"
	"strings"
	"testing"

	"prelude/api"
	"prelude/query"
)

// form is the text's form, as the chapter writes it: of each part in capitals, what it may be; NUM is a number.
func form() map[string][]string {
	return map[string][]string{
		"QUERY":  {"from NUM ROWS WHERES GROUP show ITEMS SORTS LIMIT"},
		"ROWS":   {"", "rows BOUND to BOUND"},
		"BOUND":  {"NUM", "- NUM"},
		"WHERES": {"", "where EXPR WHERES"},
		"GROUP":  {"", "group EXPR"},
		"ITEMS":  {"ITEM OTHERS"},
		"OTHERS": {"", ", ITEM OTHERS"},
		"ITEM":   {"count", "sum EXPR", "min EXPR", "max EXPR", "EXPR"},
		"SORTS":  {"", "sort NUM DESC SORTS"},
		"DESC":   {"", "desc"},
		"LIMIT":  {"", "limit NUM"},
		"EXPR":   {"UNARY MORE"},
		"MORE":   {"", "BINARY UNARY MORE"},
		"BINARY": strings.Fields("|| && == != < <= > >= + - * / %"),
		"UNARY":  {"! UNARY", "- UNARY", "( EXPR )", "NUM", "row", "value"},
	}
}

// ways is all that a text may go on with: lists of words and parts, of which the first one is a word. A list that is empty is the end.
type ways map[string]int

// add takes what a text may go on with, its first part told as words.
func (w ways) add(form map[string][]string, list string) {
	first, rest, _ := strings.Cut(list, " ")
	parts, ok := form[first]
	if !ok {
		w[list]++
		return
	}
	for _, p := range parts {
		w.add(form, strings.TrimSpace(p+" "+rest))
	}
}

// firstWrong is the number of the first word that cannot stand where it stands by the form; that of the words, if some are missing; -1, if none is.
func firstWrong(list []word) int {
	form := form()
	now := ways{}
	now.add(form, "QUERY")
	for at, w := range list {
		kind := w.text
		if kind[0] >= '0' && kind[0] <= '9' {
			kind = "NUM"
		}
		next := ways{}
		for way := range now {
			if first, rest, _ := strings.Cut(way, " "); first == kind {
				next.add(form, rest)
			}
		}
		if len(next) == 0 {
			return at
		}
		now = next
	}
	if now[""] > 0 {
		return -1
	}
	return len(list)
}

// firstDeep is the number of the first bracket or unary mark that stands in MaxDeep such ones, -1 if none does, in words that have the form as far as that.
func firstDeep(list []word) int {
	var open []string
	shut := func() { // what stands by itself ends all marks right ahead of it
		for len(open) > 0 && open[len(open)-1] != "(" {
			open = open[:len(open)-1]
		}
	}
	before := ""
	for at, w := range list {
		ends := strings.Contains(" row value ) ", " "+before+" ") || before != "" && before[0] >= '0' && before[0] <= '9'
		bound := before == "rows" || before == "to"
		switch {
		case w.text == ")":
			open = open[:len(open)-1]
			shut()
		case w.text == "(" || w.text == "!" || w.text == "-" && !ends && !bound:
			if len(open) == api.MaxDeep {
				return at
			}
			open = append(open, w.text)
		case w.text != "-" || !ends:
			shut()
		}
		before = w.text
	}
	return -1
}

// formed asks that Parse takes a text's words as the form says, and tells whether it could be read.
func formed(t *testing.T, text string) bool {
	t.Helper()
	list, _ := cut(text)
	at, want := firstWrong(list), api.ErrQuery
	ahead := list
	if at >= 0 {
		ahead = list[:at]
	}
	if deep := firstDeep(ahead); deep >= 0 {
		at, want = deep, api.ErrLimit
	}
	if at < 0 {
		q, err := query.Parse(text)
		var pos *api.PosError
		if errors.As(err, &pos) && (pos.Line != 1 || pos.Col != 1 || pos.Err == error(api.ErrQuery) || pos.Err == error(api.ErrTerm)) || err == nil && query.Check(q) != api.OK {
			t.Errorf("Parse(%q): %v, %v", text, q, err)
		}
		return err == nil
	}
	line, col := placeOf(text, len(text))
	if at < len(list) {
		line, col = list[at].line, list[at].col
	}
	refused(t, text, line, col, want)
	return false
}

// 21.2: every row of up to three words.
func TestShortTexts(t *testing.T) {
	all := append(append(names(), marks()...), "1", "x")
	for _, a := range all {
		formed(t, a)
		for _, b := range all {
			formed(t, a+" "+b)
			formed(t, "from 3 "+a+" "+b)
			for _, c := range all {
				formed(t, "from 3 show "+a+" "+b+" "+c)
				formed(t, a+" "+b+" "+c)
			}
		}
	}
}

// 21.2: of a text each beginning, and each word taken out, doubled, or made another one.
func TestMistakes(t *testing.T) {
	all := append(append(names(), marks()...), "1", "x")
	for _, text := range []string{
		"from 3 show row",
		"from 3 rows - 9 to - 1 where ! ( row == 5 ) && value where 1 group row % 2 show count , sum - value , min row , max 2 sort 1 desc sort 2 limit 4",
		"from 3 rows 1 to 2 where row show - - row , ( value ) sort 1 sort 1 desc",
	} {
		list := strings.Fields(text)
		if !formed(t, text) {
			t.Fatalf("%q is refused", text)
		}
		for i := range list {
			head, tail := strings.Join(list[:i], " "), strings.Join(list[i+1:], "\n")
			formed(t, head)
			formed(t, head+" \n")
			formed(t, head+" "+tail)
			formed(t, head+" "+list[i]+" "+list[i]+" "+tail)
			for _, w := range all {
				formed(t, head+" "+w+" "+tail)
				formed(t, head+" "+w+" "+list[i]+" "+tail)
			}
		}
	}
}

// 21.2: texts by the form, with mistakes here and there.
func TestTextsByTheForm(t *testing.T) {
	m := newMaker(2121)
	form := form()
	all := append(append(names(), marks()...), "1", "x")
	right, wrong := 0, 0
	for range 30000 {
		list := m.textOf(form, "QUERY", 12)
		for range m.Intn(3) {
			i := m.Intn(len(list) + 1)
			switch w := all[m.Intn(len(all))]; {
			case m.Intn(3) == 0 || i == len(list):
				list = slices.Insert(list, i, w)
			case m.Intn(2) == 0:
				list[i] = w
			default:
				list = slices.Delete(list, i, i+1)
			}
		}
		if formed(t, strings.Join(list, one(m, " ", "\n", " \t"))) {
			right++
		} else {
			wrong++
		}
	}
	if right < 3000 || wrong < 3000 {
		t.Errorf("%d are read, %d refused", right, wrong)
	}
}

// textOf is any words that a part may be; the deeper, the shorter.
func (m *maker) textOf(form map[string][]string, part string, deep int) []string {
	if part == "NUM" {
		return []string{strconv.Itoa(m.Intn(4))}
	}
	parts, ok := form[part]
	if !ok {
		return []string{part}
	}
	p := parts[m.Intn(len(parts))]
	if deep <= 0 && part == "UNARY" {
		p = one(m, "NUM", "row", "value")
	} else if deep <= 0 && part != "BINARY" && part != "BOUND" {
		p = parts[0]
	}
	var list []string
	for _, x := range strings.Fields(p) {
		list = append(list, m.textOf(form, x, deep-1)...)
	}
	return list
}

// 21.2: a bracket and a unary mark may stand in 47 such ones, not in 48; bound's minus, marks between two and what is closed do not count.
func TestDeep(t *testing.T) {
	deep := strings.Repeat
	for text, want := range map[string]string{
		"from 3 rows 1 to 1 show " + deep("(", 48) + "row" + deep(")", 48):                                               "1",
		"from 3 rows 1 to 1 show " + deep("-", 48) + "row":                                                               "1",
		"from 3 rows 1 to 1 show " + deep("!", 47) + "row":                                                               "0",
		"from 3 rows 1 to 1 show " + deep("-(", 24) + "row" + deep(")", 24):                                              "1",
		"from 3 rows 1 to 1 show " + deep("-", 48) + "row-" + deep("-", 48) + "row":                                      "0",
		"from 3 rows 1 to 1 show " + deep("(", 48) + "row" + deep(")", 48) + "," + deep("(", 48) + "row" + deep(")", 48): "1 1",
		"from 3 rows -1 to 1 show " + deep("(", 48) + "row-1-1" + deep(")", 48):                                          "-1",
		"from 3 rows 1 to 1 show " + deep("(", 47) + "-row-(1)--1" + deep(")", 47):                                       "-1",
		"from 3 rows 1 to 1 where " + deep("-", 48) + "1 group " + deep("-", 48) + "2 show sum " + deep("-", 48) + "row": "2 1",
	} {
		answers(t, text, want)
		formed(t, text)
	}
	for text, col := range map[string]int{
		deep("(", 49) + "row" + deep(")", 49):                    49,
		deep("-", 49) + "row":                                    49,
		deep("!", 49) + "row":                                    49,
		deep("(", 49):                                            49,
		deep("(", 48) + "-row" + deep(")", 48):                   49,
		deep("(", 48) + "row-!row" + deep(")", 48):               53,
		deep("(", 48) + "row-(row)" + deep(")", 48):              53,
		deep("-", 48) + "(row)":                                  49,
		deep("-", 48) + "row-" + deep("-", 49) + "row":           101,
		"(" + deep("-", 47) + "row+-row)," + deep("!", 49) + "1": 107,
		deep("(", 48) + "(row row":                               49,
	} {
		refused(t, "from 3 show "+text, 1, 12+col, api.ErrLimit)
		formed(t, "from 3 show "+text)
	}
	// What comes first from the front on is told, and both ahead of what Check says.
	refused(t, "from 3 where row row "+deep("(", 49), 1, 18, api.ErrQuery)
	refused(t, "from 65536 where "+deep("(", 49)+"row row", 1, 66, api.ErrLimit)
	refused(t, "from 65536 where row row", 1, 22, api.ErrQuery)
	refused(t, deep("(", 49), 1, 1, api.ErrQuery)
	refused(t, "from 3 show "+deep("(", 48)+")", 1, 61, api.ErrQuery)
	refused(t, "from 3 show "+deep("(", api.MaxText-12), 1, 61, api.ErrLimit)
	refused(t, "from 3 show "+deep("-", api.MaxText-12), 1, 61, api.ErrLimit)
	refused(t, "from 3 show "+deep("(", 49)+"$", 1, 62, api.ErrQuery)
}

// 21.2: brackets and unary marks within one another, by chance.
func TestDeepByChance(t *testing.T) {
	m := newMaker(2122)
	limits := 0
	for range 3000 {
		var b strings.Builder
		b.WriteString("from 3 where 1 show ")
		open := 0
		for range 40 + m.Intn(60) {
			switch m.Intn(36) {
			case 0:
				b.WriteString("row - ")
			case 1:
				b.WriteString("! row * ")
			case 2:
				if open > 0 {
					b.WriteString("2 ) + ")
					open--
				}
			default:
				s := one(m, "(", "-", "!", "(")
				if s == "(" {
					open++
				}
				b.WriteString(s)
			}
		}
		text := b.String() + "1" + strings.Repeat(")", open)
		formed(t, text)
		if _, err := query.Parse(text); errors.Is(err, api.ErrLimit) {
			limits++
		}
	}
	if limits < 500 || limits > 2500 {
		t.Errorf("%d are too deep", limits)
	}
}

// loosest is how tight marks between two are, from the loosest on.
func loosest() [][]string {
	return [][]string{{"||"}, {"&&"}, {"==", "!="}, {"<", "<=", ">", ">="}, {"+", "-"}, {"*", "/", "%"}}
}

// bracketed is what marks and what stands between them mean, with all brackets: the last one of the loosest marks has all ahead of it on its left.
func bracketed(list []string) string {
	if len(list) == 1 {
		return list[0]
	}
	for _, rank := range loosest() {
		for i := len(list) - 2; i > 0; i -= 2 {
			if slices.Contains(rank, list[i]) {
				return "(" + bracketed(list[:i]) + " " + list[i] + " " + bracketed(list[i+1:]) + ")"
			}
		}
	}
	return "no mark"
}

// 21.2: each two marks beside one another.
func TestPairsOfMarks(t *testing.T) {
	var all []string
	for _, rank := range loosest() {
		all = append(all, rank...)
	}
	for _, a := range all {
		for _, b := range all {
			list := []string{"row", a, "2", b, "value"}
			same(t, a+" "+b, parsed(t, "from 3 show "+strings.Join(list, " ")), parsed(t, "from 3 show "+bracketed(list)))
		}
		same(t, a, parsed(t, "from 3 show !row"+a+"-value"), parsed(t, "from 3 show (!(row)"+a+"(-(value)))"))
		same(t, a, parsed(t, "from 3 show -!row"+a+"!-value"), parsed(t, "from 3 show (-(!(row)))"+a+"(!(-(value)))"))
	}
}

// 21.2: any rows of marks.
func TestRowsOfMarks(t *testing.T) {
	m := newMaker(2123)
	var all []string
	for _, rank := range loosest() {
		all = append(all, rank...)
	}
	for range 5000 {
		list := []string{one(m, "row", "1", "value")}
		for range 1 + m.Intn(12) {
			list = append(list, all[m.Intn(len(all))], one(m, "row", "2", "value", "!row", "-3"))
		}
		text := "from 3 show " + strings.Join(list, " ")
		same(t, text, parsed(t, text), parsed(t, "from 3 show "+bracketed(list)))
	}
	// Brackets leave no trace.
	same(t, "brackets", parsed(t, "from 3 where (((row))) show ((((1)+(row)))), -((value))"), parsed(t, "from 3 where row show 1+row, -value"))
}

// 21.2: what Check says of a text's query is told at 1:1.
func TestCheckOfTexts(t *testing.T) {
	eight := func(s, between string) string { return strings.Repeat(s+between, 7) + s }
	ones := func(n int) string { return "1" + strings.Repeat("+1", n-1) }
	for _, text := range []string{
		"from 65535 show row",
		"from 3 rows 5 to 5 show row",
		"from 3 rows -5 to -4 show row",
		"from 3 " + eight("where 1 ", "") + " show row",
		"from 3 show " + eight("row", ","),
		"from 3 show " + eight("count", ","),
		"from 3 show row " + eight("sort 1 ", ""),
		"from 3 show " + ones(128),
		"from 3 where 1 show " + ones(128),
		"from 3 show row, value sort 2",
		"from 3 group row show count, max row sort 3",
		"from 3 show row limit 9223372036854775807",
	} {
		parsed(t, text)
	}
	for text, want := range map[string]api.Errno{
		"from 65536 show row":                                  api.ErrTable,
		"from 9223372036854775807 show row":                    api.ErrTable,
		"from 3 rows 5 to 4 show row":                          api.ErrTable,
		"from 3 rows -4 to -5 show row":                        api.ErrTable,
		"from 3 rows 0 to -0 show row limit 1 ":                api.OK,
		"from 3 " + eight("where 1 ", "") + "where 2 show row": api.ErrLimit,
		"from 3 show " + eight("row", ",") + ",row":            api.ErrLimit,
		"from 3 show row " + eight("sort 1 ", "") + "sort 1":   api.ErrLimit,
		"from 3 show " + ones(129):                             api.ErrLimit,
		"from 3 where 1 where 1 show " + ones(128):             api.ErrLimit,
		"from 3 show -" + ones(128):                            api.OK,
		"from 3 show --" + ones(128):                           api.ErrLimit,
		"from 3 show " + strings.Repeat("1+", 32000) + "1":     api.ErrLimit,
		"from 65536 show row, count sort 9":                    api.ErrTable,
		"from 3 show " + ones(129) + ",count sort 9":           api.ErrLimit,
		"from 3 show row, count sort 9":                        api.ErrItems,
		"from 3 show count, row":                               api.ErrItems,
		"from 3 show row, sum row":                             api.ErrItems,
		"from 3 group row show row":                            api.ErrItems,
		"from 3 group row show count, row":                     api.ErrItems,
		"from 3 show row sort 0":                               api.ErrSorts,
		"from 3 show row sort 2":                               api.ErrSorts,
		"from 3 show row sort 1 sort 2 desc":                   api.ErrSorts,
		"from 3 group row show count sort 3":                   api.ErrSorts,
		"from 3 show count sort 9223372036854775807":           api.ErrSorts,
	} {
		if want == api.OK {
			parsed(t, text)
		} else {
			refused(t, text, 1, 1, want)
		}
	}
}
