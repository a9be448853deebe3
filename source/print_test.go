package source_test

import (
	"math"
	"strings"
	"testing"

	"prelude/api"
	"prelude/source"
)

// writes asks that a tree is written so, and that the text is read back as the tree.
func writes(t *testing.T, s api.Source, want string) {
	t.Helper()
	text := printed(t, s)
	if text != want {
		t.Errorf("is written %q, want %q", text, want)
	}
	if again := parsed(t, text); !same(s, again) {
		t.Errorf("%q is read back as %v", text, again)
	}
}

// 18.3: constants, and the first lines of procedures.
func TestPrintSource(t *testing.T) {
	writes(t, api.Source{}, "")
	writes(t, api.Source{Consts: []api.Const{}, Procs: []api.Define{}}, "")
	writes(t, api.Source{Consts: []api.Const{{Name: "b", X: num(1)}, {Name: "a", X: two(api.IAdd, named("b"), num(2))}, {Name: "b", X: num(3)}}},
		"const b = 1;\nconst a = b + 2;\nconst b = 3;\n")
	writes(t, procedure(), "proc p() {\n}\n")
	for _, c := range []struct {
		d    api.Define
		want string
	}{
		{api.Define{Name: "p", Args: names("a")}, "proc p(a) {\n}\n"},
		{api.Define{Name: "p", Args: names("a", "b")}, "proc p(a, b) {\n}\n"},
		{api.Define{Name: "p", Reads: names("r")}, "proc p() reads r {\n}\n"},
		{api.Define{Name: "p", Writes: names("w")}, "proc p() writes w {\n}\n"},
		{api.Define{Name: "p", Args: names("a", "b"), Reads: names("r", "s"), Writes: names("w", "x")}, "proc p(a, b) reads r, s writes w, x {\n}\n"},
		{api.Define{Name: "p", Args: []api.Name{}, Reads: []api.Name{}, Writes: []api.Name{}, Body: []api.Stmt{}}, "proc p() {\n}\n"},
		{api.Define{Name: "Reads", Args: names("p", "p"), Reads: names("p", "p", "q"), Writes: names("p")}, "proc Reads(p, p) reads p, p, q writes p {\n}\n"},
	} {
		writes(t, api.Source{Procs: []api.Define{c.d}}, c.want)
	}
	// All constants stand ahead of all procedures.
	s := parsed(t, "proc q() { stop; } const b = 1; proc p() {} const a = 2;")
	writes(t, s, "const b = 1;\nconst a = 2;\nproc q() {\n  stop;\n}\nproc p() {\n}\n")
}

// 18.3: statements.
func TestPrintStatements(t *testing.T) {
	a, b, stop := named("a"), two(api.IAdd, named("b"), num(1)), api.Stmt{Kind: api.SStop}
	when := func(body, other []api.Stmt) api.Stmt {
		return api.Stmt{Kind: api.SIf, X: a, Body: body, Else: other}
	}
	list := func(stmts ...api.Stmt) []api.Stmt { return stmts }
	for want, s := range map[string]api.Stmt{
		"let x = b + 1;":                        {Kind: api.SLet, Name: "x", X: b},
		"x = b + 1;":                            {Kind: api.SSet, Name: "x", X: b},
		"put x = b + 1;":                        {Kind: api.SPut, Name: "x", X: b},
		"put [a] = b + 1;":                      {Kind: api.SPutX, X: a, Y: b},
		"put [b + 1] = a;":                      {Kind: api.SPutX, X: b, Y: a},
		"del x;":                                {Kind: api.SDel, Name: "x"},
		"out b + 1;":                            {Kind: api.SOut, X: b},
		"abort b + 1;":                          {Kind: api.SAbort, X: b},
		"stop;":                                 stop,
		"repeat b + 1 {\n  }":                   {Kind: api.SRepeat, X: b},
		"repeat a {\n    stop;\n    stop;\n  }": {Kind: api.SRepeat, X: a, Body: list(stop, stop)},
		"repeat a {\n    repeat b + 1 {\n      stop;\n    }\n  }": {Kind: api.SRepeat, X: a, Body: list(api.Stmt{Kind: api.SRepeat, X: b, Body: list(stop)})},
		"if a {\n  }":                        when(nil, nil),
		"if a {\n    stop;\n  }":             when(list(stop), nil),
		"if a {\n  } else {\n    stop;\n  }": when(nil, list(stop)),
		"if a {\n    stop;\n  } else {\n    stop;\n    stop;\n  }":       when(list(stop), list(stop, stop)),
		"if a {\n  } else if a {\n    stop;\n  }":                        when(nil, list(when(list(stop), nil))),
		"if a {\n  } else if a {\n  } else {\n    stop;\n  }":            when(nil, list(when(nil, list(stop)))),
		"if a {\n  } else if a {\n  } else if a {\n    stop;\n  }":       when(nil, list(when(nil, list(when(list(stop), nil))))),
		"if a {\n  } else {\n    if a {\n    }\n    stop;\n  }":          when(nil, list(when(nil, nil), stop)),
		"if a {\n  } else {\n    stop;\n    if a {\n    }\n  }":          when(nil, list(stop, when(nil, nil))),
		"if a {\n    if a {\n      stop;\n    } else if a {\n    }\n  }": when(list(when(list(stop), list(when(nil, nil)))), nil),
		"if a {\n  } else {\n    repeat a {\n      stop;\n    }\n  }":    when(nil, list(api.Stmt{Kind: api.SRepeat, X: a, Body: list(stop)})),
	} {
		writes(t, procedure(s), "proc p() {\n  "+want+"\n}\n")
		writes(t, procedure(stop, s, stop), "proc p() {\n  stop;\n  "+want+"\n  stop;\n}\n")
		// One block deeper: two spaces more in each line.
		writes(t, procedure(api.Stmt{Kind: api.SRepeat, X: a, Body: list(s)}), "proc p() {\n  repeat a {\n    "+strings.ReplaceAll(want, "\n", "\n  ")+"\n  }\n}\n")
	}
}

// 18.3: an empty list of else is as none.
func TestPrintEmptyElse(t *testing.T) {
	writes(t, procedure(api.Stmt{Kind: api.SIf, X: named("a"), Body: []api.Stmt{}, Else: []api.Stmt{}}), "proc p() {\n  if a {\n  }\n}\n")
}

// 18.3: numbers.
func TestPrintNumbers(t *testing.T) {
	for n, want := range map[int64]string{
		0: "0", 1: "1", 10: "10", math.MaxInt64: "9223372036854775807",
		-1: "0xffffffffffffffff", -2: "0xfffffffffffffffe", -16: "0xfffffffffffffff0", math.MinInt64: "0x8000000000000000", -0x7edcba9876543210: "0x8123456789abcdf0",
	} {
		writes(t, constant(num(n)), "const a = "+want+";\n")
		writes(t, constant(neg(num(n))), "const a = -"+want+";\n")
	}
}

// 18.3: expressions without a sign between two, and what stands within them.
func TestPrintExpressions(t *testing.T) {
	a, b := named("a"), named("b")
	choice := of(api.ECond, 0, a, b, num(1))
	for want, x := range map[string]api.Expr{
		"a":                            a,
		"get(a)":                       {Kind: api.EGet, Name: "a"},
		"has(a)":                       {Kind: api.EHas, Name: "a"},
		"get[a]":                       of(api.EGetX, 0, a),
		"get[a ? b : 1]":               of(api.EGetX, 0, choice),
		"min(a, b)":                    two(api.IMin, a, b),
		"max(b, a)":                    two(api.IMax, b, a),
		"min(a ? b : 1, a ? b : 1)":    two(api.IMin, choice, choice),
		"max(min(a, b), get[-a])":      two(api.IMax, two(api.IMin, a, b), of(api.EGetX, 0, neg(a))),
		"-a":                           neg(a),
		"!a":                           not(a),
		"--a":                          neg(neg(a)),
		"!-!a":                         not(neg(not(a))),
		"-get[a]":                      neg(of(api.EGetX, 0, a)),
		"-min(a, b)":                   neg(two(api.IMin, a, b)),
		"-(a + b)":                     neg(two(api.IAdd, a, b)),
		"!(a && b)":                    not(of(api.EAnd, 0, a, b)),
		"-(a ? b : 1)":                 neg(choice),
		"-a * -b":                      two(api.IMul, neg(a), neg(b)),
		"a - -b":                       two(api.ISub, a, neg(b)),
		"a ? b : 1":                    choice,
		"(a ? b : 1) ? a : b":          of(api.ECond, 0, choice, a, b),
		"a ? a ? b : 1 : b":            of(api.ECond, 0, a, choice, b),
		"a ? b : a ? b : 1":            of(api.ECond, 0, a, b, choice),
		"a || b ? a || b : a || b":     of(api.ECond, 0, of(api.EOr, 0, a, b), of(api.EOr, 0, a, b), of(api.EOr, 0, a, b)),
		"min(a, b) + max(a, b)":        two(api.IAdd, two(api.IMin, a, b), two(api.IMax, a, b)),
		"a * min(a, b) * b":            two(api.IMul, two(api.IMul, a, two(api.IMin, a, b)), b),
		"get(a) - has(b) * get[a - b]": two(api.ISub, api.Expr{Kind: api.EGet, Name: "a"}, two(api.IMul, api.Expr{Kind: api.EHas, Name: "b"}, of(api.EGetX, 0, two(api.ISub, a, b)))),
	} {
		writes(t, constant(x), "const a = "+want+";\n")
	}
}

// 18.3: how long the text may be.
func TestPrintLong(t *testing.T) {
	sized := func(n int) api.Source {
		return api.Source{Consts: []api.Const{{Name: strings.Repeat("n", n-len("const  = 1;\n")), X: num(1)}}}
	}
	if text := printed(t, sized(api.MaxText)); len(text) != api.MaxText {
		t.Errorf("has %d bytes", len(text))
	}
	unprinted(t, sized(api.MaxText+1), api.ErrLong)
	unprinted(t, sized(10*api.MaxText), api.ErrLong)
	// Of many lines, the last one is too long by a byte.
	long := parsed(t, strings.Repeat("proc p(){stop;}", 3000))
	line := len(printed(t, long)) / 3000
	all := make([]api.Define, api.MaxText/line)
	for i := range all {
		all[i] = long.Procs[0]
	}
	rest := api.MaxText - line*len(all)
	all[0].Name += strings.Repeat("p", rest)
	if text := printed(t, api.Source{Procs: all}); len(text) != api.MaxText {
		t.Errorf("has %d bytes", len(text))
	}
	all[len(all)-1].Name += "p"
	unprinted(t, api.Source{Procs: all}, api.ErrLong)
	// A text that is read can get too long.
	unprinted(t, parsed(t, "const a=1"+strings.Repeat("+1", api.MaxText/2-10)+";"), api.ErrLong)
	deep := "proc p(){" + strings.Repeat("repeat 1{", 199) + strings.Repeat("}", 200)
	unprinted(t, parsed(t, deep), api.ErrLong)
}

// 18.3: how deep the text may be.
func TestPrintDeep(t *testing.T) {
	type wrapper struct {
		most int
		wrap func(x api.Expr) api.Expr
	}
	for i, w := range []wrapper{
		{200, neg}, {200, not},
		{200, func(x api.Expr) api.Expr { return of(api.EGetX, 0, x) }},
		{200, func(x api.Expr) api.Expr { return two(api.IMin, x, num(1)) }},
		{200, func(x api.Expr) api.Expr { return two(api.IMax, num(1), x) }},
		{200, func(x api.Expr) api.Expr { return of(api.ECond, 0, num(1), x, num(2)) }},
		{200, func(x api.Expr) api.Expr { return of(api.ECond, 0, num(1), num(2), x) }},
		// What gets parentheses, from the second one on; and the first one's own sign.
		{200, func(x api.Expr) api.Expr { return of(api.ECond, 0, x, num(1), num(2)) }},
		{201, func(x api.Expr) api.Expr { return two(api.ISub, num(1), x) }},
		{201, func(x api.Expr) api.Expr { return two(api.ILt, x, num(1)) }},
		{100, func(x api.Expr) api.Expr { return two(api.IMul, neg(x), num(1)) }},
	} {
		x := num(1)
		for n := 1; n <= 210; n++ {
			x = w.wrap(x)
			_, e := source.Print(constant(x))
			if want := n > w.most; e != api.OK && e != api.ErrLimit || (e == api.ErrLimit) != want {
				t.Errorf("%d: %d within one another: %d", i, n, e)
			}
		}
	}
	// What gets no parentheses can be as deep as it likes.
	x := num(1)
	for range 10000 {
		x = two(api.ISub, x, num(1))
	}
	printed(t, constant(x))
	// An else with an if in it gets no block of its own.
	s := api.Stmt{Kind: api.SIf, X: num(1)}
	for n := 1; n <= 205; n++ {
		s = api.Stmt{Kind: api.SIf, X: num(1), Else: []api.Stmt{s}}
		_, e := source.Print(procedure(s))
		if want := n > 198; e != api.OK && e != api.ErrLimit || (e == api.ErrLimit) != want {
			t.Errorf("%d else if: %d", n, e)
		}
	}
}

// 18.3, R2: which error comes first.
func TestPrintErrorsInOrder(t *testing.T) {
	deep := num(1)
	for range 250 {
		deep = neg(deep)
	}
	unprinted(t, constant(deep), api.ErrLimit)
	long := constant(deep)
	long.Consts[0].Name = strings.Repeat("n", api.MaxText)
	unprinted(t, long, api.ErrLong)
	long.Procs = []api.Define{{Name: "if"}}
	unprinted(t, long, api.ErrTree)
	wrong := constant(api.Expr{})
	for range 250 {
		wrong.Consts[0].X = neg(wrong.Consts[0].X)
	}
	unprinted(t, wrong, api.ErrTree)
	// A fault behind more than a text can hold.
	many := make([]api.Const, api.MaxText)
	for i := range many {
		many[i] = api.Const{Name: "a", X: num(1)}
	}
	unprinted(t, api.Source{Consts: many}, api.ErrLong)
	many[len(many)-1].X.Op = api.IAdd
	unprinted(t, api.Source{Consts: many}, api.ErrTree)
}

// R1: trees that go on for ever, as a list stands within itself, are too long, or wrong.
func TestPrintEndless(t *testing.T) {
	for i, x := range []api.Expr{neg(num(1)), of(api.EGetX, 0, num(1)), two(api.ISub, num(1), num(2)), two(api.IMin, num(1), num(2)), of(api.EAnd, 0, num(1), num(2)), of(api.ECond, 0, num(1), num(2), num(3))} {
		for at := range x.Args {
			was := x.Args[at]
			x.Args[at] = x
			unprinted(t, constant(x), api.ErrLong)
			unprinted(t, procedure(api.Stmt{Kind: api.SPutX, X: num(1), Y: x}), api.ErrLong)
			if other := (at + 1) % len(x.Args); other != at {
				good := x.Args[other]
				x.Args[other] = api.Expr{}
				unprinted(t, constant(x), api.ErrTree)
				x.Args[other] = good
			}
			x.Args[at] = was
		}
		if _, e := source.Print(constant(x)); e != api.OK {
			t.Errorf("%d: %d", i, e)
		}
	}
	loop := []api.Stmt{{Kind: api.SStop}, {Kind: api.SRepeat, X: num(1)}}
	loop[1].Body = loop
	unprinted(t, procedure(loop...), api.ErrLong)
	loop[1].X.Name = "a"
	unprinted(t, procedure(loop...), api.ErrTree)
	for _, n := range []int{1, 2} {
		list := make([]api.Stmt, n)
		for i := range list {
			list[i] = api.Stmt{Kind: api.SIf, X: num(1), Else: list}
		}
		unprinted(t, procedure(list...), api.ErrLong)
		list[n-1].Body = []api.Stmt{{}}
		unprinted(t, procedure(list...), api.ErrTree)
	}
}

// R1: small trees in memory that are very great as trees, and very deep ones.
func TestPrintHuge(t *testing.T) {
	x := num(1)
	for range 100 {
		x = two(api.IAdd, x, x)
	}
	unprinted(t, constant(x), api.ErrLong)
	unprinted(t, constant(two(api.IAdd, x, api.Expr{})), api.ErrTree)
	body := []api.Stmt{{Kind: api.SStop}}
	for range 100 {
		s := api.Stmt{Kind: api.SIf, X: x, Body: body, Else: body}
		body = []api.Stmt{s, s}
	}
	unprinted(t, procedure(body...), api.ErrLong)
	long := strings.Repeat("n", api.MaxText-100)
	many := make([]api.Name, 1000)
	for i := range many {
		many[i].Text = long
	}
	unprinted(t, api.Source{Procs: []api.Define{{Name: "p", Args: many, Reads: many, Writes: many}}}, api.ErrLong)
	left, right := num(1), num(1)
	for range 300000 {
		left, right = two(api.IAdd, left, num(1)), neg(right)
	}
	unprinted(t, constant(left), api.ErrLong)
	unprinted(t, constant(right), api.ErrLong)
}
