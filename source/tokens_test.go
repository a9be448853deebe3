package source_test

import (
	"errors"
	"math"
	"math/rand"
	"reflect"
	"regexp"
	"strconv"
	"strings"
	"testing"

	"prelude/api"
	"prelude/source"
)

const (
	words      = "const proc reads writes let put del out abort stop if else repeat get has min max"
	longSigns  = "== != <= >= << >> && ||"
	shortSigns = "= < > + - * / % & | ^ ! ? : ; , ( ) { } [ ]"
)

// tokenized asks that a text has tokens, and is them.
func tokenized(t *testing.T, text string) []api.Token {
	t.Helper()
	tokens, err := source.Tokens(text)
	if err != nil {
		t.Fatalf("Tokens(%q) is %v", text, err)
	}
	return tokens
}

// oneToken asks that a text is one token of a kind, at its front.
func oneToken(t *testing.T, text string, kind int, n int64) {
	t.Helper()
	want := []api.Token{{Kind: kind, Text: text, N: n, At: at(1, 1)}}
	if tokens := tokenized(t, text); !reflect.DeepEqual(tokens, want) {
		t.Errorf("Tokens(%q) is %v, want %v", text, tokens, want)
	}
}

// noTokens asks that a text is refused at a place, by an error.
func noTokens(t *testing.T, text string, line, col int, want api.Errno) {
	t.Helper()
	tokens, err := source.Tokens(text)
	pos, ok := err.(*api.PosError)
	if len(tokens) != 0 || !ok || pos.Line != line || pos.Col != col || pos.Err != error(want) || !errors.Is(err, want) {
		t.Errorf("Tokens(%.80q) is %v, %v, want %d:%d, %d", text, tokens, err, line, col, want)
	}
	// 18.2: Parse answers the error of Tokens.
	refused(t, text, line, col, want)
}

// texts is the texts of tokens.
func texts(tokens []api.Token) []string {
	var out []string
	for _, k := range tokens {
		out = append(out, k.Text)
	}
	return out
}

// 18.1: words and names.
func TestWords(t *testing.T) {
	for _, w := range strings.Fields(words) {
		oneToken(t, w, api.TWord, 0)
		for _, name := range []string{w + "s", w + "_", w + "0", "x" + w, strings.ToUpper(w), strings.ToUpper(w[:1]) + w[1:], w[1:] + "_"} {
			oneToken(t, name, api.TName, 0)
		}
	}
	for _, name := range []string{"a", "z", "A", "Z", "a_", "a0", "zZ9_", "ab_cd_09", "x0x1", "e", strings.Repeat("n", 1000)} {
		oneToken(t, name, api.TName, 0)
	}
}

// 18.1: numbers.
func TestNumbers(t *testing.T) {
	for text, n := range map[string]int64{
		"0": 0, "1": 1, "9": 9, "10": 10, "1234567890": 1234567890, "9223372036854775807": math.MaxInt64,
		"0x0": 0, "0x1": 1, "0xa": 10, "0xf": 15, "0x9": 9, "0x10": 16, "0x00": 0, "0x000000000000000f": 15, "0xabcdef": 0xabcdef,
		"0x7fffffffffffffff": math.MaxInt64, "0x8000000000000000": math.MinInt64, "0xffffffffffffffff": -1, "0x0123456789abcdef": 0x123456789abcdef,
	} {
		oneToken(t, text, api.TNumber, n)
	}
	for _, text := range []string{
		"00", "01", "08", "007", "9223372036854775808", "99999999999999999999", "18446744073709551615",
		"0x", "0xg", "0xG", "0xA", "0xF", "0X1", "0X", "0x_", "0x1_", "0x1g", "0x00000000000000000", "0x10000000000000000", "0xx1", "00x1", "1x1", "0b1", "0o7",
		"1a", "1_", "1_000", "0_", "0a", "1e5", "12if", "0if", "9z", "1A", strings.Repeat("1", 100),
	} {
		noTokens(t, text, 1, 1, api.ErrNumber)
		noTokens(t, "a+"+text+"+@", 1, 3, api.ErrNumber)
		noTokens(t, "a // @\n /* @ */"+text, 2, 9, api.ErrNumber)
	}
	// A number ends where no letter, digit and _ is.
	if got := texts(tokenized(t, "1-2:3 0x1-0x2")); !reflect.DeepEqual(got, []string{"1", "-", "2", ":", "3", "0x1", "-", "0x2"}) {
		t.Errorf("are %q", got)
	}
}

// 18.1: signs, each the longest that stands there.
func TestSigns(t *testing.T) {
	for _, s := range strings.Fields(longSigns + " " + shortSigns) {
		oneToken(t, s, api.TSign, 0)
	}
	for text, want := range map[string]string{
		"===":      "== =",
		"====":     "== ==",
		"!==":      "!= =",
		"!!=":      "! !=",
		"<<=":      "<< =",
		"<=<":      "<= <",
		"<<<":      "<< <",
		">>>=":     ">> >=",
		">=>":      ">= >",
		"&&&":      "&& &",
		"|||":      "|| |",
		"&|&":      "& | &",
		"=!":       "= !",
		"=<":       "= <",
		"=>":       "= >",
		"--":       "- -",
		"++":       "+ +",
		"**":       "* *",
		"*/":       "* /",
		"</>":      "< / >",
		"<>":       "< >",
		"()[]{}":   "( ) [ ] { }",
		"a<=1":     "a <= 1",
		"-1":       "- 1",
		"a?b:c;":   "a ? b : c ;",
		"^=%=,":    "^ = % = ,",
		"1/ /2":    "1 / / 2",
		"a&b|c":    "a & b | c",
		"get[0x1]": "get [ 0x1 ]",
	} {
		if got := texts(tokenized(t, text)); !reflect.DeepEqual(got, strings.Fields(want)) {
			t.Errorf("Tokens(%q) are %q, want %q", text, got, want)
		}
	}
}

// 18.1: bytes that begin nothing, wherever a token may begin.
func TestBytesThatBeginNothing(t *testing.T) {
	begins := "abcdefghijklmnopqrstuvwxyzABCDEFGHIJKLMNOPQRSTUVWXYZ0123456789 \t\r\n" + strings.ReplaceAll(shortSigns, " ", "")
	for c := range 256 {
		b := string([]byte{byte(c)})
		if strings.Contains(begins, b) {
			tokenized(t, b)
			continue
		}
		noTokens(t, b, 1, 1, api.ErrLex)
		noTokens(t, "ab "+b, 1, 4, api.ErrLex)
		noTokens(t, "+"+b+"08", 1, 2, api.ErrLex)
		noTokens(t, "/**/"+b+b, 1, 5, api.ErrLex)
		noTokens(t, "//\n\n "+b, 3, 2, api.ErrLex)
		if b != "_" {
			noTokens(t, "ab"+b, 1, 3, api.ErrLex)
			noTokens(t, "12"+b+"x", 1, 3, api.ErrLex)
		}
	}
	// Runes that look like blanks, letters, digits and signs elsewhere.
	for _, s := range []string{"\u00e9", "\u00df", "\u0130", "\u212a", "\u017f", "\u0660", "\uff11", "\u00a0", "\u2028", "\u2003", "\ufeff", "\uff1b", "\u2215", "\ufffd", "\U0001f600", "\xff\xfe", "\xe2\x82", "\u0085", "\v", "\f"} {
		noTokens(t, s, 1, 1, api.ErrLex)
		noTokens(t, "a"+s, 1, 2, api.ErrLex)
		noTokens(t, "0x1"+s, 1, 4, api.ErrLex)
		noTokens(t, "const a = 1; /* "+s+" */"+s, 1, 20+len(s), api.ErrLex)
	}
}

// 18.1: blanks and comments are no tokens.
func TestBlanksAndComments(t *testing.T) {
	for _, text := range []string{"", " ", "\t", "\r", "\n", " \t\r\n\n ", "//", "// x", "//\n", "// /* \n", "/**/", "/***/", "/* * / */", "/*/*/", "/* // */", "/*\n*/", "//*", "// \xff\x00 @ 08", "/* \u00e9 \xff @ 08 \x00 */", "/*a*//*b*/ //c\n//d"} {
		if tokens := tokenized(t, text); len(tokens) != 0 {
			t.Errorf("Tokens(%q) are %v", text, tokens)
		}
		if s := parsed(t, text); len(s.Consts)+len(s.Procs) != 0 {
			t.Errorf("Parse(%q) is %v", text, s)
		}
	}
	for text, want := range map[string]string{
		"a//b\nc":      "a c",
		"a//b\rc\nd":   "a d",
		"a/*b*/c":      "a c",
		"a/*b\nc*/d":   "a d",
		"a/**/b":       "a b",
		"a/***/b":      "a b",
		"a/*/b*/c":     "a c",
		"a/*b*/*/c":    "a * / c",
		"a/*b/*c*/d":   "a d",
		"a//*\nb*/c":   "a b * / c",
		"a/ /b":        "a / / b",
		"a/ *b":        "a / * b",
		"a/+/b":        "a / + / b",
		"a/*//*/b":     "a b",
		"a</*x*/=b":    "a < = b",
		"a<//x\n=b":    "a < = b",
		"0/**/x1":      "0 x1",
		"if/**/x else": "if x else",
		"a*/**//b":     "a * / b",
	} {
		if got := texts(tokenized(t, text)); !reflect.DeepEqual(got, strings.Fields(want)) {
			t.Errorf("Tokens(%q) are %q, want %q", text, got, want)
		}
	}
}

// 18.1: a comment that never ends.
func TestCommentNeverEnds(t *testing.T) {
	for _, c := range []string{"/*", "/*/", "/* *", "/* b", "/* * /", "/*\n\n", "/* /* //", "/* @ 08"} {
		noTokens(t, c, 1, 1, api.ErrLex)
		noTokens(t, "a "+c, 1, 3, api.ErrLex)
		noTokens(t, "a/* x\n */"+c, 2, 4, api.ErrLex)
		noTokens(t, "a//"+c[:2]+"\n+"+c, 2, 2, api.ErrLex)
		noTokens(t, "08 "+c, 1, 1, api.ErrNumber)
	}
}

// 18.1: places.
func TestPlacesOfTokens(t *testing.T) {
	tokens := tokenized(t, "a <= 0x1f\n\tif\r\n\n/* \n \u00e9 */ b//\u00e9\n  ;/*\u00e9*/c")
	want := []api.Token{
		{Kind: api.TName, Text: "a", At: at(1, 1)},
		{Kind: api.TSign, Text: "<=", At: at(1, 3)},
		{Kind: api.TNumber, Text: "0x1f", N: 31, At: at(1, 6)},
		{Kind: api.TWord, Text: "if", At: at(2, 2)},
		{Kind: api.TName, Text: "b", At: at(5, 8)},
		{Kind: api.TSign, Text: ";", At: at(6, 3)},
		{Kind: api.TName, Text: "c", At: at(6, 10)},
	}
	if !reflect.DeepEqual(tokens, want) {
		t.Errorf("are %v, want %v", tokens, want)
	}
}

// 18.1: how long a text may be.
func TestTextLimit(t *testing.T) {
	for _, s := range []string{" ", "@", "a", "1", "/*", "const a = 08;"} {
		text := s + strings.Repeat(" ", api.MaxText)
		if tokens, err := source.Tokens(text); len(tokens) != 0 || err != error(api.ErrLong) {
			t.Errorf("Tokens of %d bytes are %v, %v", len(text), tokens, err)
		}
		if got, err := source.Parse(text); got.Consts != nil || got.Procs != nil || err != error(api.ErrLong) {
			t.Errorf("Parse of %d bytes is %v, %v", len(text), got, err)
		}
	}
	tail := strings.Repeat(" ", api.MaxText-1)
	if tokens := tokenized(t, tail+"a"); len(tokens) != 1 || tokens[0].At != at(1, api.MaxText) {
		t.Errorf("are %v", tokens)
	}
	noTokens(t, tail+"@", 1, api.MaxText, api.ErrLex)
	noTokens(t, strings.Repeat("\n", api.MaxText-1)+"@", api.MaxText, 1, api.ErrLex)
	refused(t, "x"+tail, 1, 1, api.ErrSyntax)
	refused(t, "proc"+tail[3:], 1, api.MaxText+1, api.ErrSyntax)
	oneToken(t, strings.Repeat("n", api.MaxText), api.TName, 0)
	if tokens := tokenized(t, strings.Repeat("(", api.MaxText)); len(tokens) != api.MaxText {
		t.Errorf("are %d", len(tokens))
	}
}

// tokensByLetter is Tokens by the chapter's letter: at each place the longest of what may stand there.
func tokensByLetter(text string) ([]api.Token, error) {
	gaps := regexp.MustCompile(`^(?:[ \t\r\n]|//[^\n]*|/\*(?s:.*?)\*/)`)
	word := regexp.MustCompile(`^[a-zA-Z][a-zA-Z0-9_]*`)
	number := regexp.MustCompile(`^[0-9][a-zA-Z0-9_]*`)
	sign := regexp.MustCompile(`^(?:==|!=|<=|>=|<<|>>|&&|\|\||[=<>+\-*/%&|^!?:;,(){}\[\]])`)
	decimal := regexp.MustCompile(`^(?:0|[1-9][0-9]*)$`)
	hex := regexp.MustCompile(`^0x[0-9a-f]{1,16}$`)
	var tokens []api.Token
	for i := 0; i < len(text); {
		ahead, rest := text[:i], text[i:]
		spot := at(1+strings.Count(ahead, "\n"), i-strings.LastIndex(ahead, "\n"))
		wrong := func(e api.Errno) error { return &api.PosError{Line: spot.Line, Col: spot.Col, Err: e} }
		if g := gaps.FindString(rest); g != "" {
			i += len(g)
			continue
		}
		k := api.Token{Kind: api.TSign, Text: sign.FindString(rest), At: spot}
		if w := word.FindString(rest); w != "" {
			k.Kind, k.Text = api.TName, w
			if strings.Contains(" "+words+" ", " "+w+" ") {
				k.Kind = api.TWord
			}
		}
		if n := number.FindString(rest); n != "" {
			k.Kind, k.Text = api.TNumber, n
			v, err := strconv.ParseUint(n, 0, 64)
			if err != nil || !hex.MatchString(n) && (!decimal.MatchString(n) || v > math.MaxInt64) {
				return nil, wrong(api.ErrNumber)
			}
			k.N = int64(v)
		}
		if k.Text == "" || strings.HasPrefix(rest, "/*") {
			return nil, wrong(api.ErrLex)
		}
		tokens = append(tokens, k)
		i += len(k.Text)
	}
	return tokens, nil
}

// 18.1: any texts, against the chapter's letter.
func TestTokensOfAnyText(t *testing.T) {
	pieces := strings.Fields(words + " " + longSigns + " " + shortSigns + " a b0 Z_ if0 0 1 12 0x1f 0xffffffffffffffff 9223372036854775807 // /* */ /* */ /**/")
	pieces = append(pieces, " ", " ", "\n", "\n", "\t", "\r", " ", "_", "0", "9", "x")
	rare := []string{"@", "08", "0x", "\u00e9", "\xff", "9223372036854775808", ".", "\"", "0xG", "\x00"}
	random := rand.New(rand.NewSource(18))
	good := 0
	for range 10000 {
		var text string
		for range random.Intn(20) {
			text += pieces[random.Intn(len(pieces))]
			if random.Intn(3) == 0 {
				text += " "
			}
			if random.Intn(60) == 0 {
				text += rare[random.Intn(len(rare))]
			}
		}
		tokens, err := source.Tokens(text)
		want, wantErr := tokensByLetter(text)
		if len(tokens) != len(want) || len(want) > 0 && !reflect.DeepEqual(tokens, want) || !reflect.DeepEqual(err, wantErr) {
			t.Fatalf("Tokens(%q) is %v, %v, want %v, %v", text, tokens, err, want, wantErr)
		}
		if err == nil {
			good++
		}
	}
	if good < 2000 || good > 9000 {
		t.Errorf("%d texts were good", good)
	}
}
