package source_test

import (
	"reflect"
	"strings"
	"testing"

	"prelude/api"
)

// stmtOf is the statement that a text is, without its places.
func stmtOf(t *testing.T, text string) api.Stmt {
	t.Helper()
	s := parsed(t, "proc p() {"+text+"}")
	if len(s.Procs) != 1 || len(s.Procs[0].Body) != 1 {
		t.Fatalf("%q is %v", text, s)
	}
	return bareStmts(s.Procs[0].Body)[0]
}

// 18.2: constants and procedures, each in their order.
func TestSources(t *testing.T) {
	for text, want := range map[string]api.Source{
		"":                 {},
		"const a = 1;":     constant(num(1)),
		"proc p() {}":      procedure(),
		"proc p() {stop;}": procedure(api.Stmt{Kind: api.SStop}),
		"const b = a; const a = 1;const a=2;": {Consts: []api.Const{
			{Name: "b", X: named("a")}, {Name: "a", X: num(1)}, {Name: "a", X: num(2)}}},
		"proc q() {} const b = 1; proc p() {} const a = 2;": {
			Consts: []api.Const{{Name: "b", X: num(1)}, {Name: "a", X: num(2)}},
			Procs:  []api.Define{{Name: "q"}, {Name: "p"}}},
		"proc p(a) {}":                                   {Procs: []api.Define{{Name: "p", Args: names("a")}}},
		"proc p(a, b, a) {}":                             {Procs: []api.Define{{Name: "p", Args: names("a", "b", "a")}}},
		"proc p() reads a {}":                            {Procs: []api.Define{{Name: "p", Reads: names("a")}}},
		"proc p() writes a {}":                           {Procs: []api.Define{{Name: "p", Writes: names("a")}}},
		"proc p(p) reads p, q writes q, r, s { stop;}":   {Procs: []api.Define{{Name: "p", Args: names("p"), Reads: names("p", "q"), Writes: names("q", "r", "s"), Body: []api.Stmt{{Kind: api.SStop}}}}},
		"proc p(" + strings.Repeat("x, ", 100) + "x) {}": {Procs: []api.Define{{Name: "p", Args: names(strings.Fields(strings.Repeat("x ", 101))...)}}},
	} {
		if s := parsed(t, text); !same(s, want) {
			t.Errorf("%q is %v, want %v", text, s, want)
		}
	}
}

// 18.2: statements.
func TestStatements(t *testing.T) {
	a, b, stop := named("a"), named("b"), api.Stmt{Kind: api.SStop}
	for text, want := range map[string]api.Stmt{
		"let x = a;":                 {Kind: api.SLet, Name: "x", X: a},
		"x = a;":                     {Kind: api.SSet, Name: "x", X: a},
		"put x = a;":                 {Kind: api.SPut, Name: "x", X: a},
		"put [a] = b;":               {Kind: api.SPutX, X: a, Y: b},
		"put [a ? b : a] = b ? a:b;": {Kind: api.SPutX, X: of(api.ECond, 0, a, b, a), Y: of(api.ECond, 0, b, a, b)},
		"del x;":                     {Kind: api.SDel, Name: "x"},
		"out a;":                     {Kind: api.SOut, X: a},
		"abort b;":                   {Kind: api.SAbort, X: b},
		"stop;":                      stop,
		"if a {}":                    {Kind: api.SIf, X: a},
		"if a {stop;}":               {Kind: api.SIf, X: a, Body: []api.Stmt{stop}},
		"if a {} else {stop;}":       {Kind: api.SIf, X: a, Else: []api.Stmt{stop}},
		"if a {stop;} else {}":       {Kind: api.SIf, X: a, Body: []api.Stmt{stop}},
		"if a {stop;stop;} else {stop;stop;stop;}": {Kind: api.SIf, X: a, Body: []api.Stmt{stop, stop}, Else: []api.Stmt{stop, stop, stop}},
		"if a {} else if b {stop;}":                {Kind: api.SIf, X: a, Else: []api.Stmt{{Kind: api.SIf, X: b, Body: []api.Stmt{stop}}}},
		"if a {} else {if b {stop;}}":              {Kind: api.SIf, X: a, Else: []api.Stmt{{Kind: api.SIf, X: b, Body: []api.Stmt{stop}}}},
		"if a {} else {if b {} stop;}":             {Kind: api.SIf, X: a, Else: []api.Stmt{{Kind: api.SIf, X: b}, stop}},
		"if a {} else if b {} else if a {} else {stop;}": {Kind: api.SIf, X: a, Else: []api.Stmt{
			{Kind: api.SIf, X: b, Else: []api.Stmt{{Kind: api.SIf, X: a, Else: []api.Stmt{stop}}}}}},
		"if a {if b {} else {stop;}}":      {Kind: api.SIf, X: a, Body: []api.Stmt{{Kind: api.SIf, X: b, Else: []api.Stmt{stop}}}},
		"repeat a {}":                      {Kind: api.SRepeat, X: a},
		"repeat a + b {repeat b {stop;} }": {Kind: api.SRepeat, X: two(api.IAdd, a, b), Body: []api.Stmt{{Kind: api.SRepeat, X: b, Body: []api.Stmt{stop}}}},
	} {
		if s := stmtOf(t, text); !reflect.DeepEqual(s, want) {
			t.Errorf("%q is %v, want %v", text, s, want)
		}
	}
}

// 18.2: what stands by itself in expressions, and what is around it.
func TestPrimaries(t *testing.T) {
	a, b := named("a"), named("b")
	for text, want := range map[string]api.Expr{
		"0":                    num(0),
		"9223372036854775807":  num(9223372036854775807),
		"0x8000000000000000":   num(-9223372036854775808),
		"a":                    a,
		"(a)":                  a,
		"(((a)))":              a,
		"get(a)":               {Kind: api.EGet, Name: "a"},
		"has(a)":               {Kind: api.EHas, Name: "a"},
		"get[a]":               of(api.EGetX, 0, a),
		"get[(a)]":             of(api.EGetX, 0, a),
		"get[a ? b : 1]":       of(api.EGetX, 0, of(api.ECond, 0, a, b, num(1))),
		"get[get[get(a)]]":     of(api.EGetX, 0, of(api.EGetX, 0, api.Expr{Kind: api.EGet, Name: "a"})),
		"min(a, b)":            two(api.IMin, a, b),
		"max(a, b)":            two(api.IMax, a, b),
		"min(max(a,b),a?b:a)":  two(api.IMin, two(api.IMax, a, b), of(api.ECond, 0, a, b, a)),
		"-a":                   neg(a),
		"!a":                   not(a),
		"-!--a":                neg(not(neg(neg(a)))),
		"-(a)":                 neg(a),
		"-1":                   neg(num(1)),
		"-9223372036854775807": neg(num(9223372036854775807)),
		"!get(a)":              not(api.Expr{Kind: api.EGet, Name: "a"}),
		"a ? b : a":            of(api.ECond, 0, a, b, a),
		"a ? b ? 1 : 2 : 3":    of(api.ECond, 0, a, of(api.ECond, 0, b, num(1), num(2)), num(3)),
		"a ? b : a ? 1 : 2":    of(api.ECond, 0, a, b, of(api.ECond, 0, a, num(1), num(2))),
		"a || b ? 1 : 2":       of(api.ECond, 0, of(api.EOr, 0, a, b), num(1), num(2)),
		"a || (b ? 1 : 2)":     of(api.EOr, 0, a, of(api.ECond, 0, b, num(1), num(2))),
		"a ? b : 1 || 2":       of(api.ECond, 0, a, b, of(api.EOr, 0, num(1), num(2))),
	} {
		if x := exprOf(t, text); !reflect.DeepEqual(x, want) {
			t.Errorf("%q is %v, want %v", text, x, want)
		}
	}
}

// between is a sign between two, its line in the grammar (from 1, or) and what the two are.
type between struct {
	sign     string
	line     int
	kind, op int
}

// betweens is the signs between two by the chapter's letter.
func betweens() []between {
	return []between{
		{"||", 1, api.EOr, 0}, {"&&", 2, api.EAnd, 0}, {"|", 3, api.EBinary, api.IOr}, {"^", 4, api.EBinary, api.IXor}, {"&", 5, api.EBinary, api.IAnd},
		{"==", 6, api.EBinary, api.IEq}, {"!=", 6, api.EBinary, api.INe}, {"<", 6, api.EBinary, api.ILt}, {"<=", 6, api.EBinary, api.ILe}, {">", 6, api.EBinary, api.IGt}, {">=", 6, api.EBinary, api.IGe},
		{"<<", 7, api.EBinary, api.IShl}, {">>", 7, api.EBinary, api.IShr}, {"+", 8, api.EBinary, api.IAdd}, {"-", 8, api.EBinary, api.ISub},
		{"*", 9, api.EBinary, api.IMul}, {"/", 9, api.EBinary, api.IDiv}, {"%", 9, api.EBinary, api.IMod},
	}
}

// 18.2, 18.3: each sign between two beside each other one: which of them joins first, and which parentheses stay.
func TestRanksOfSigns(t *testing.T) {
	a, b, c := named("a"), named("b"), named("c")
	for _, s := range betweens() {
		if x := exprOf(t, "a"+s.sign+"b"); !reflect.DeepEqual(x, of(s.kind, s.op, a, b)) {
			t.Errorf("%s makes %v", s.sign, x)
		}
		if got := textOf(t, of(s.kind, s.op, a, b)); got != "a "+s.sign+" b" {
			t.Errorf("%s is written %q", s.sign, got)
		}
		// A unary sign binds closer, a choice less close.
		stays(t, "-a "+s.sign+" !b", "-(a "+s.sign+" b)", "a "+s.sign+" b ? a : b", "a "+s.sign+" (b ? a : b)", "(a ? b : c) "+s.sign+" b", "a ? b : c "+s.sign+" b")
		stays(t, "min(a "+s.sign+" b, b)", "max(a, a "+s.sign+" b)", "get[a "+s.sign+" b]")
		for _, u := range betweens() {
			text := "a " + s.sign + " b " + u.sign + " c"
			left := of(u.kind, u.op, of(s.kind, s.op, a, b), c)
			right := of(s.kind, s.op, a, of(u.kind, u.op, b, c))
			leftText := "(a " + s.sign + " b) " + u.sign + " c"
			rightText := "a " + s.sign + " (b " + u.sign + " c)"
			switch {
			case s.line == 6 && u.line == 6:
				refused(t, "const x = "+text+";", 1, 16+len(s.sign), api.ErrSyntax)
			case s.line >= u.line:
				leftText = text
			default:
				rightText = text
			}
			for want, x := range map[string]api.Expr{leftText: left, rightText: right} {
				if got := exprOf(t, want); !reflect.DeepEqual(got, x) {
					t.Errorf("%q is %v, want %v", want, got, x)
				}
				if got := textOf(t, x); got != want {
					t.Errorf("%v is written %q, want %q", x, got, want)
				}
			}
		}
	}
}

// 18.2: the places in a tree.
func TestPlacesInTree(t *testing.T) {
	s := parsed(t, "const\n  c = (1 + a) *\n -get[2];\nproc p(a,\n b) reads r,\n  s writes w {\n"+ // 1 to 6
		"let x = a ? b : !c;\n"+ // 7
		" x = min(a, b);\n"+ // 8
		" put w = has(r) && get(s);\n"+ // 9
		" put [(1)] = x;\n"+ // 10
		" if a < b { stop; } else if c { del w; }\n"+ // 11
		" else { abort max(1,2) || 3; }\n"+ // 12
		" repeat ((2)) { out 1; }\n}") // 13
	c, p := s.Consts[0], s.Procs[0]
	body := p.Body
	elseIf := body[4].Else[0]
	for i, pair := range []struct{ got, want api.Spot }{
		{c.At, at(2, 3)},
		{c.X.At, at(2, 15)},                        // *
		{c.X.Args[0].At, at(2, 10)},                // +
		{c.X.Args[0].Args[0].At, at(2, 8)},         // 1
		{c.X.Args[0].Args[1].At, at(2, 12)},        // a
		{c.X.Args[1].At, at(3, 2)},                 // -
		{c.X.Args[1].Args[0].At, at(3, 3)},         // get
		{c.X.Args[1].Args[0].Args[0].At, at(3, 7)}, // 2
		{p.At, at(4, 6)},
		{p.Args[0].At, at(4, 8)},
		{p.Args[1].At, at(5, 2)},
		{p.Reads[0].At, at(5, 11)},
		{p.Reads[1].At, at(6, 3)},
		{p.Writes[0].At, at(6, 12)},
		{body[0].At, at(7, 1)},
		{body[0].X.At, at(7, 11)},         // ?
		{body[0].X.Args[0].At, at(7, 9)},  // a
		{body[0].X.Args[1].At, at(7, 13)}, // b
		{body[0].X.Args[2].At, at(7, 17)}, // !
		{body[0].X.Args[2].Args[0].At, at(7, 18)},
		{body[1].At, at(8, 2)},
		{body[1].X.At, at(8, 6)}, // min
		{body[1].X.Args[1].At, at(8, 13)},
		{body[2].At, at(9, 2)},
		{body[2].X.At, at(9, 17)},         // &&
		{body[2].X.Args[0].At, at(9, 10)}, // has
		{body[2].X.Args[1].At, at(9, 20)}, // get
		{body[3].At, at(10, 2)},
		{body[3].X.At, at(10, 8)},
		{body[3].Y.At, at(10, 14)},
		{body[4].At, at(11, 2)},
		{body[4].X.At, at(11, 7)}, // <
		{body[4].Body[0].At, at(11, 13)},
		{elseIf.At, at(11, 26)},
		{elseIf.X.At, at(11, 29)},
		{elseIf.Body[0].At, at(11, 33)},
		{elseIf.Else[0].At, at(12, 9)},
		{elseIf.Else[0].X.At, at(12, 24)},         // ||
		{elseIf.Else[0].X.Args[0].At, at(12, 15)}, // max
		{body[5].At, at(13, 2)},
		{body[5].X.At, at(13, 11)},
		{body[5].Body[0].At, at(13, 17)},
		// What a tree has none of has no place.
		{body[0].Y.At, api.Spot{}},
		{body[5].Y.At, api.Spot{}},
		{body[4].Body[0].X.At, api.Spot{}},
	} {
		if pair.got != pair.want {
			t.Errorf("%d: is %v, want %v", i, pair.got, pair.want)
		}
	}
}

// 18.2: of a repeated sign the place is that of each of them, the last one outermost.
func TestPlacesOfRepeatedSigns(t *testing.T) {
	for _, s := range betweens() {
		if s.line == 6 {
			continue
		}
		x := parsed(t, "const a = 1"+s.sign+"2"+s.sign+"3;").Consts[0].X
		n := len(s.sign)
		if x.At != at(1, 13+n) || x.Args[0].At != at(1, 12) || x.Args[1].At != at(1, 13+2*n) || x.Args[0].Args[1].At != at(1, 12+n) {
			t.Errorf("%s: %v", s.sign, x)
		}
	}
}

// 18.2: texts that are wrong, and the first token that is.
func TestFirstWrongToken(t *testing.T) {
	for _, c := range []struct {
		text string
		col  int
	}{
		{"const 1", 7}, {"const =", 7}, {"const a 1", 9}, {"const a == 1", 9}, {"const a = ;", 11}, {"const a = 1 2", 13}, {"const a = 1 b", 13}, {"const a = 1; ;", 14}, {"const a = 1, b = 2;", 12}, {"const a = const", 11},
		{"let a = 1;", 1}, {"{}", 1}, {"1", 1}, {";", 1}, {"const a = 1; let", 14}, {"proc p() {} }", 13}, {"proc p() {};", 12},
		{"proc 1", 6}, {"proc get()", 6}, {"proc p {", 8}, {"proc p[", 7}, {"proc p(1", 8}, {"proc p(,", 8}, {"proc p(a b", 10}, {"proc p(a,)", 10}, {"proc p(a,,", 10}, {"proc p(a;", 9}, {"proc p(min", 8}, {"proc p((", 8},
		{"proc p() reads {", 16}, {"proc p() reads writes", 16}, {"proc p() reads a b", 18}, {"proc p() reads a, {", 19}, {"proc p() reads a reads", 18}, {"proc p() writes a reads", 19}, {"proc p() writes a writes", 19}, {"proc p() writes (", 17}, {"proc p() ;", 10}, {"proc p() a", 10}, {"proc p() (", 10}, {"proc p() if", 10},
	} {
		refused(t, c.text, 1, c.col, api.ErrSyntax)
	}
	const ahead = "proc p() {"
	for _, c := range []struct {
		text string
		col  int
	}{
		{"1", 1}, {";", 1}, {"const", 1}, {"proc", 1}, {"else", 1}, {"get", 1}, {"(", 1}, {"{", 1}, {"-", 1}, {"reads", 1}, {")", 1}, {"]", 1},
		{"let 1", 5}, {"let if", 5}, {"let [", 5}, {"let a;", 6}, {"let a == 1", 7}, {"let a = }", 9}, {"let a = 1 }", 11},
		{"a", 0}, {"a 1", 3}, {"a;", 2}, {"a == 1", 3}, {"a(", 2}, {"a[", 2}, {"a = = ", 5}, {"a = let", 5},
		{"put 1", 5}, {"put (", 5}, {"put min", 5}, {"put a;", 6}, {"put a[", 6}, {"put [;", 6}, {"put []", 6}, {"put [1;", 7}, {"put [1)", 7}, {"put [1];", 8}, {"put [1] == ", 9}, {"put [1] = ]", 11}, {"put [1] = 2]", 12},
		{"del 1", 5}, {"del [", 5}, {"del a = 1", 7}, {"del a, b", 6}, {"out;", 4}, {"out }", 5}, {"out 1, 2", 6}, {"out a = 1", 7}, {"abort;", 6}, {"abort 1 1", 9}, {"stop 1", 6}, {"stop }", 6},
		{"if {", 4}, {"if a;", 5}, {"if a stop", 6}, {"if a then", 6}, {"if (a) stop", 8}, {"if a = 1", 6}, {"if a {};", 8}, {"if a {} else;", 13}, {"if a {} else stop", 14}, {"if a {} else else", 14}, {"if a {} else {} else", 17}, {"if a {} else if {", 17}, {"if a {} else if b {} else {} else", 30}, {"if a {} else repeat", 14},
		{"repeat {", 8}, {"repeat a;", 9}, {"repeat a {} else", 13}, {"repeat a {};", 12},
		{"stop; }; ", 8}, {"stop; } stop", 9}, {"stop; } }", 9},
	} {
		if c.col == 0 {
			refused(t, ahead+c.text, 1, len(ahead+c.text)+1, api.ErrSyntax)
		} else {
			refused(t, ahead+c.text, 1, len(ahead)+c.col, api.ErrSyntax)
		}
	}
	for _, c := range []struct {
		text string
		col  int
	}{
		{")", 1}, {"]", 1}, {"+1", 1}, {"*", 1}, {"?", 1}, {":", 1}, {"if", 1}, {"reads", 1}, {"()", 2}, {"(1;", 3}, {"(1]", 3}, {"(1, 2)", 3}, {"(1 2", 4}, {"1)", 2}, {"1]", 2}, {"a(1)", 2}, {"a[1]", 2}, {"1(", 2}, {"a a", 3}, {"a 1", 3}, {"1 if", 3},
		{"1 +", 0}, {"1 + ;", 5}, {"1 + + 2", 5}, {"1 * / 2", 5}, {"1 - ) 2", 5}, {"1 ! 2", 3}, {"1 != ", 0}, {"- ;", 3}, {"!)", 2}, {"-+1", 2}, {"1 = 2", 3}, {"a, b", 2}, {"1 & & 2", 5}, {"1 | | 2", 5},
		{"get", 0}, {"get a", 5}, {"get(1)", 5}, {"get()", 5}, {"get(a + 1)", 7}, {"get((a))", 5}, {"get(a]", 6}, {"get(a, b)", 6}, {"get[]", 5}, {"get[a)", 6}, {"get[a, b]", 6}, {"get{", 4}, {"get;", 4}, {"get(if)", 5}, {"get = 1", 5},
		{"has", 0}, {"has a", 5}, {"has[a]", 4}, {"has(1)", 5}, {"has()", 5}, {"has(a", 0}, {"has(a;", 6}, {"has(has(a))", 5},
		{"min", 0}, {"min a", 5}, {"min[", 4}, {"min()", 5}, {"min(a)", 6}, {"min(a;", 6}, {"min(a,)", 7}, {"min(a, b, c)", 9}, {"min(a, b]", 9}, {"max(,", 5}, {"max(a b", 7}, {"max(a, b;", 9},
		{"a ? b", 0}, {"a ? b;", 6}, {"a ? : b", 5}, {"a ? b : ;", 9}, {"a ? b : c : d", 11}, {"a : b", 3}, {"a ? b, c", 6}, {"a ? (b : c)", 8}, {"a ? ? b", 5}, {"a ? b ? c : d;", 14},
		{"1 < 2 < 3", 7}, {"1 == 2 != 3", 8}, {"1 < 2 + 3 >= 4", 11}, {"1 < 2 == 3", 7}, {"1 >= 2 & 3 < 4 < 5", 16},
	} {
		if c.col == 0 {
			refused(t, "const a = "+c.text, 1, 11+len(c.text), api.ErrSyntax)
		} else {
			refused(t, "const a = "+c.text, 1, 10+c.col, api.ErrSyntax)
		}
	}
}

// 18.2: the place behind the last byte, where a source only begins.
func TestPlaceBehindText(t *testing.T) {
	for _, c := range []struct {
		text      string
		line, col int
	}{
		{"const", 1, 6}, {"const ", 1, 7}, {"const\n", 2, 1}, {"const\n\n", 3, 1}, {"const\r", 1, 7}, {"const\n ", 2, 2}, {"const\r\n", 2, 1}, {"const // \u00e9", 1, 12}, {"const /* \n\u00e9 */", 2, 6}, {"\n const // x\n", 3, 1}, {"const/**/", 1, 10}, {"\tproc p(a,\n\tb", 2, 3},
	} {
		refused(t, c.text, c.line, c.col, api.ErrSyntax)
	}
}

// 18.2: of a text that is a source each piece that ends ahead of a token is a beginning of one.
func TestCuts(t *testing.T) {
	const text = "const c = 1 ? -2 : min(3, get[c]); proc p(a, b) reads r, s writes w { let x = has(r); if x < get(s) { put w = 1; } else if c { put [0] = 1; } else { del w; } repeat 2 { out x; x = x | 1; } abort 1; stop; }"
	s := parsed(t, text)
	for _, k := range tokenized(t, text) {
		cut := text[:k.At.Col-1]
		switch cut {
		case "":
			if got := parsed(t, cut); !same(got, api.Source{}) {
				t.Errorf("is %v", got)
			}
		case text[:35]:
			if got := parsed(t, cut); !same(got, api.Source{Consts: s.Consts}) {
				t.Errorf("is %v", got)
			}
		default:
			refused(t, cut, 1, len(cut)+1, api.ErrSyntax)
		}
		// No token is an @, or a number that is none.
		refused(t, cut+"@ 08", 1, len(cut)+1, api.ErrLex)
		refused(t, cut+" 08 @", 1, len(cut)+2, api.ErrNumber)
	}
}

// 18.2: what is wrong with tokens comes first, wherever it stands.
func TestTokensFirst(t *testing.T) {
	refused(t, "x y z\n@", 2, 1, api.ErrLex)
	refused(t, "x y z\n 08", 2, 2, api.ErrNumber)
	refused(t, ") "+strings.Repeat("(", 500)+"@", 1, 503, api.ErrLex)
	refused(t, "const a = "+strings.Repeat("(", 201)+"09", 1, 212, api.ErrNumber)
	refused(t, "const a = 1; /* x", 1, 14, api.ErrLex)
}
