package query_test

import (
	"regexp"
	"strconv"
	"strings"
	"testing"

	"prelude/api"
	"prelude/query"
)

// marks is all marks of the text.
func marks() []string {
	return strings.Fields("|| && == != <= >= < > + - * / % ! ( ) ,")
}

// names is all names of the text.
func names() []string {
	return strings.Fields("from rows to where group show sort desc limit count sum min max row value")
}

// 21.2: a byte that begins no word is ErrQuery, wherever it stands; it comes ahead of all that is wrong with the form.
func TestBytesThatBeginNoWord(t *testing.T) {
	const may = "0123456789abcdefghijklmnopqrstuvwxyz<>+-*/%!(), \t\n\r"
	for b := range 256 {
		if strings.IndexByte(may, byte(b)) >= 0 {
			continue
		}
		s := string([]byte{byte(b)})
		refused(t, s, 1, 1, api.ErrQuery)
		refused(t, "from 3 show row"+s, 1, 16, api.ErrQuery)
		refused(t, "from 3 "+s+" show row", 1, 8, api.ErrQuery)
		refused(t, "show show\n from\r\t"+s+" @", 2, 8, api.ErrQuery)
		refused(t, "from 65536 where (("+s, 1, 20, api.ErrQuery)
	}
	for text, col := range map[string]int{
		"from 3 show row | value":   17,
		"from 3 show row |||value":  19,
		"from 3 show row &&& value": 19,
		"from 3 show row & & value": 17,
		"from 3 show row === value": 19,
		"from 3 show row = value":   17,
		"from 3 show row = = value": 17,
		"from 3 show row <== value": 19,
		"from 3 show row =< value":  17,
		"from 3 show Row":           13,
		"from 3 show row_":          16,
		"from 3 show r\xc3\xb6w":    14,
		"from 3 show 'x'":           13,
		"from 3 show row ; value":   17,
		"from 3 show 1.5":           14,
		"x 9 $ 9223372036854775808": 5,
	} {
		refused(t, text, 1, col, api.ErrQuery)
	}
	refused(t, "from 3 show row // and value", 1, 18, api.ErrQuery)
	refused(t, "from 3 show 0x10", 1, 14, api.ErrQuery)
}

// 21.2: all letters are of names, all digits of numbers: what is wrong with them is the form.
func TestBytesOfWords(t *testing.T) {
	for b := byte('a'); b <= 'z'; b++ {
		s := string([]byte{b})
		refused(t, "x "+s, 1, 1, api.ErrQuery)
		refused(t, "from 3 show row"+s, 1, 13, api.ErrQuery)
		refused(t, "from 3 show "+s+"row", 1, 13, api.ErrQuery)
		refused(t, "from 3 show "+s, 1, 13, api.ErrQuery)
	}
	for b := byte('0'); b <= '9'; b++ {
		answers(t, "from 3 rows 1 to 1 show 1"+string([]byte{b}), "1"+string([]byte{b}))
	}
}

// 21.2: a number above 2^63 - 1 is ErrNumber at its first digit, wherever it stands; what comes first in the text is told.
func TestNumbersThatAreTooGreat(t *testing.T) {
	for _, n := range []string{
		"9223372036854775808", "9223372036854775809", "18446744073709551615", "18446744073709551616", "18446744073709551617",
		"99999999999999999999", "0009223372036854775808", "10000000000000000000", strings.Repeat("9", 5000), strings.Repeat("0", 5000) + "9223372036854775808",
	} {
		refused(t, n, 1, 1, api.ErrNumber)
		refused(t, "from "+n, 1, 6, api.ErrNumber)
		refused(t, "from 3 rows -"+n+" to 1 show row", 1, 14, api.ErrNumber)
		refused(t, "x\n x "+n+" $ "+n, 2, 4, api.ErrNumber)
		refused(t, "x $ "+n, 1, 3, api.ErrQuery)
		refused(t, "from 3 show row limit "+n, 1, 23, api.ErrNumber)
	}
	for _, n := range []string{"9223372036854775807", "0009223372036854775807", strings.Repeat("0", 5000) + "9223372036854775807"} {
		answers(t, "from 3 rows 1 to 1 show "+n, "9223372036854775807")
		answers(t, "from 3 rows 1 to "+n+" show row", "1; 2; 3")
	}
	for text, want := range map[string]string{"0": "0", "00": "0", "007": "7", "08": "8", "10": "10", "0000": "0"} {
		answers(t, "from 3 rows 1 to 1 show "+text, want)
	}
}

// 21.2: a longer mark is taken ahead of a shorter one.
func TestLongMarks(t *testing.T) {
	for text, want := range map[string]string{
		"1<=-2":      "0",
		"1<-2":       "0",
		"2>=!0":      "1",
		"1!=!0":      "0",
		"!!1":        "1",
		"--1":        "1",
		"1==!0":      "1",
		"1==-1":      "0",
		"3--1":       "4",
		"3-!-1":      "3",
		"0||!1&&!0":  "0",
		"!(1)!=(0)":  "0",
		"(1)<=(2)":   "1",
		"7%-4*-2/-3": "2",
	} {
		answers(t, "from 3 rows 1 to 1 show "+text, want)
	}
	refused(t, "from 3 show row < = value", 1, 19, api.ErrQuery)
	refused(t, "from 3 show row ! = value", 1, 19, api.ErrQuery)
	refused(t, "from 3 show row < > value", 1, 19, api.ErrQuery)
	refused(t, "from 3 show row != = value", 1, 20, api.ErrQuery)
	refused(t, "from 3 show row !! value", 1, 17, api.ErrQuery)
	refused(t, "from 3 show row !=! value =", 1, 27, api.ErrQuery)
}

// 21.2: blanks stand between any two words, and must stand just where two numbers or names would run together.
func TestBlanks(t *testing.T) {
	const text = "from 3 rows - 1 to 30 where ! ( row == 5 ) && value <= 7 where 1 group row % 2 show count , sum - value , min row sort 1 desc sort 2 limit 4"
	want := parsed(t, text)
	list := strings.Fields(text)
	for _, blank := range []string{"\n", "\t", "\r", "\r\n", "   ", " \t\r\n ", "\n\n"} {
		same(t, strconv.Quote(blank), parsed(t, blank+strings.Join(list, blank)+blank), want)
	}
	same(t, "without", parsed(t, "from3rows-1to30where!(row==5)&&value<=7where1group row%2show count,sum-value,min row sort1desc sort2limit4"), want)
	refused(t, "from 3 show rowrow", 1, 13, api.ErrQuery)
	refused(t, "from 3showrow", 1, 7, api.ErrQuery)
	refused(t, "from 3 3 show row", 1, 8, api.ErrQuery)
	refused(t, "fr om 3 show row", 1, 1, api.ErrQuery)
	refused(t, "from 3 show row\vlimit 1", 1, 16, api.ErrQuery)
	refused(t, "from 3 show row\x00", 1, 16, api.ErrQuery)
	refused(t, "from 3 show\u00a0row", 1, 12, api.ErrQuery)
}

// 21.2: lines are counted by line feeds alone, columns by bytes; the place behind the last byte is counted like the others.
func TestPlaces(t *testing.T) {
	for text, at := range map[string][2]int{
		"":                        {1, 1},
		"\n":                      {2, 1},
		" ":                       {1, 2},
		"from":                    {1, 5},
		"from ":                   {1, 6},
		"from\n":                  {2, 1},
		"from 3\r":                {1, 8},
		"from 3\r\n":              {2, 1},
		"from\n3\n\n show\n":      {5, 1},
		"from 3 show\n\n \t":      {3, 3},
		"from 3 show row, \n  ":   {2, 3},
		"\n\n\t\tlimit":           {3, 3},
		"from\r\r\rx":             {1, 8},
		"from 3\n\nshow\nrow row": {4, 5},
		"from 3 show (\nrow\n":    {3, 1},
	} {
		refused(t, text, at[0], at[1], api.ErrQuery)
	}
	refused(t, "from 3\n\nshow 1 + \n  9223372036854775808", 4, 3, api.ErrNumber)
	refused(t, "\n\n  from 65536 show row", 1, 1, api.ErrTable)
}

// 21.2: a text with more than MaxText bytes is ErrLong, whatever stands in it; one with as many is read.
func TestLongTexts(t *testing.T) {
	const text = "from 3 show row"
	room := api.MaxText - len(text)
	want := parsed(t, text)
	for _, long := range []string{text + strings.Repeat(" ", room), strings.Repeat("\n", room) + text, "from " + strings.Repeat("0", room) + text[5:]} {
		same(t, "long", parsed(t, long), want)
		if q, err := query.Parse(long + " "); err != error(api.ErrLong) {
			t.Errorf("%v, %v", q, err)
		}
	}
	refused(t, strings.Repeat(" ", api.MaxText), 1, api.MaxText+1, api.ErrQuery)
	refused(t, strings.Repeat("\n", api.MaxText), api.MaxText+1, 1, api.ErrQuery)
	refused(t, strings.Repeat("$", api.MaxText), 1, 1, api.ErrQuery)
	for _, long := range []string{strings.Repeat("$", api.MaxText+1), strings.Repeat("9", api.MaxText+1), strings.Repeat("(", 1<<20)} {
		if q, err := query.Parse(long); err != error(api.ErrLong) || q.Terms != nil {
			t.Errorf("%v, %v", q, err)
		}
	}
}

// word is a word that the chapter's letter finds, and its place.
type word struct {
	text      string
	line, col int
}

// cut is a text's words by the letter; or the place of what is none, and the error.
func cut(text string) ([]word, *api.PosError) {
	form := regexp.MustCompile(`^(?:[0-9]+|[a-z]+|\|\||&&|==|!=|<=|>=|[<>+*/%!(),-])`)
	var list []word
	for at := 0; at < len(text); {
		if strings.IndexByte(" \t\n\r", text[at]) >= 0 {
			at++
			continue
		}
		line, col := placeOf(text, at)
		w := form.FindString(text[at:])
		if w == "" {
			return nil, &api.PosError{Line: line, Col: col, Err: api.ErrQuery}
		}
		if n := strings.TrimLeft(w, "0"); w[0] <= '9' && w[0] >= '0' && (len(n) > 19 || len(n) == 19 && n > "9223372036854775807") {
			return nil, &api.PosError{Line: line, Col: col, Err: api.ErrNumber}
		}
		list = append(list, word{w, line, col})
		at += len(w)
	}
	return list, nil
}

// placeOf is the line and the column of a byte.
func placeOf(text string, at int) (int, int) {
	ahead := text[:at]
	return strings.Count(ahead, "\n") + 1, at - strings.LastIndex(ahead, "\n")
}

// 21.2: texts of any bytes.
func TestAnyBytes(t *testing.T) {
	m := newMaker(212)
	pieces := append(append(names(), marks()...), "1", "23", "0", " ", "\n", "\t", "|", "&", "=", "$", "A", "\xff", "9223372036854775808", "99999999999999999999")
	for range 20000 {
		var b strings.Builder
		for range m.Intn(8) {
			b.WriteString(pieces[m.Intn(len(pieces))])
			b.WriteString(one(m, "", "", " ", "\n"))
		}
		_, want := cut(b.String())
		if want != nil {
			errno, _ := want.Err.(api.Errno)
			refused(t, b.String(), want.Line, want.Col, errno)
		}
	}
}
