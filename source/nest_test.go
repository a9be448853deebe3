package source_test

import (
	"math/rand"
	"strings"
	"testing"

	"prelude/api"
	"prelude/source"
)

// A text of tokens with blanks between them, in which ^ ahead of a token says that it opens something, and ~ that what was opened last ends there. nestOf is the text without these, and the place of the first token that opens something within api.MaxNest others (0, if there is none).
func nestOf(marked string) (string, int) {
	var text strings.Builder
	nest, wrong := 0, 0
	for _, w := range strings.Fields(marked) {
		word := strings.TrimLeft(w, "~^")
		nest -= strings.Count(w, "~")
		if strings.Contains(w, "^") {
			if nest >= api.MaxNest && wrong == 0 {
				wrong = text.Len() + 1
			}
			nest++
		}
		if word != "" {
			text.WriteString(word + " ")
		}
	}
	return text.String(), wrong
}

// checkNest asks that Parse takes a text, or refuses it at the token that stands within too many others; and is whether it took it.
func checkNest(t *testing.T, marked string) bool {
	t.Helper()
	text, wrong := nestOf(marked)
	if wrong != 0 {
		refused(t, text, 1, wrong, api.ErrLimit)
		return false
	}
	s := parsed(t, text)
	// 18.5: it can be written, but where spaces ahead of lines make it too long.
	out, e := source.Print(s)
	if e != api.ErrLong && (e != api.OK || !same(s, parsed(t, out))) {
		t.Errorf("%.300q is written %.300q, %d", text, out, e)
	}
	return true
}

// around is what may stand around an expression or statements, up to the place where they stand and behind it.
type around struct {
	ahead, behind string
	unary         bool // only a unary may stand there
}

// roundExpr is what may stand around an expression in an expression; the first six are of the rank unary, or above it.
func roundExpr() []around {
	return []around{
		{"^(", "~)", false}, {"get ^[", "~]", false}, {"min ^(", ", 1 ~)", false}, {"max ^( 1 ,", "~)", false}, {"^-", "~", true}, {"^!", "~", true},
		{"1 ^?", ": 2 ~", false}, {"1 ^? 2 :", "~", false}, {"get ^( a ~) +", "", true}, {"1 * has ^( a ~) * ^- 2 ~ <", "", true}, {"1 ^? 2 : ^( 3 ~) ^?", ": 4 ~ ~", false},
		{"get ^[ 1 ~] ^?", ": max ^( 1 , 2 ~) ~", false},
	}
}

// roundStmt is what may stand around statements in a statement.
func roundStmt() []around {
	return []around{
		{"if 1 ^{", "~}", false}, {"if 1 ^{ ~} else ^{", "~}", false}, {"repeat 1 ^{", "~}", false}, {"if 1 ^{ ~} else ^if 2 ^{", "~} ~", false},
		{"if 1 ^{ ~} else ^if 2 ^{ ~} else ^{", "~} ~", false}, {"if 1 ^{ ~} else ^if 2 ^{ ~} else ^if 3 ^{", "~} ~ ~", false}, {"if ^- 1 ~ ^{", "~} else ^if ^- 1 ~ ^{ ~} ~", false},
		{"stop ; repeat ^( 1 ~) ^{", "~} stop ;", false}, {"put ^[ 1 ~] = ^( 2 ~) ; repeat 1 ^{", "~}", false},
	}
}

// roundFirst is what may stand around an expression in a statement.
func roundFirst() []around {
	return []around{
		{"out", ";", false}, {"abort", ";", false}, {"let a =", ";", false}, {"a =", ";", false}, {"put a =", ";", false}, {"put ^[", "~] = 1 ;", false}, {"put ^[ 1 ~] =", ";", false},
		{"if", "^{ ~}", false}, {"repeat", "^{ ~}", false}, {"if 1 ^{ ~} else ^if", "^{ ~} ~", false}, {"if 1 ^{ ~} else ^if 2 ^{ ~} else ^if", "^{ ~} ~ ~", false},
	}
}

// wrap is an expression within so many others, one round the other.
func wrap(inner string, rounds ...around) string {
	for i := range rounds {
		r := rounds[len(rounds)-1-i]
		inner = r.ahead + " " + inner + " " + r.behind
	}
	return inner
}

// 18.2: each opening token, within as many others as may be and within one more.
func TestNestOfEach(t *testing.T) {
	parens := func(n int) around {
		return around{strings.Repeat("^( ", n), strings.Repeat("~) ", n), false}
	}
	blocks := func(n int) around {
		return around{strings.Repeat("repeat 1 ^{ ", n), strings.Repeat("~} ", n), false}
	}
	for _, x := range []string{"^( 1 ~)", "get ^( a ~)", "has ^( a ~)", "get ^[ 1 ~]", "min ^( 1 , 2 ~)", "max ^( 1 , 2 ~)", "^- 1 ~", "^! 1 ~", "1 ^? 2 : 3 ~", "1 + 2 ^? 3 : 4 ~", "1 - ^- 2 ~", "1 < ^! 2 ~"} {
		const ahead, behind = "const a = ", " ;"
		if !checkNest(t, ahead+wrap(x, parens(199))+behind) || checkNest(t, ahead+wrap(x, parens(200))+behind) {
			t.Errorf("%q stands within too few or too many", x)
		}
	}
	for _, x := range []string{"1", "a", "1 - 2", "1 + 2 * 3", "1 - 2 - 3 - 4", "a && b || c"} {
		if !checkNest(t, "const a = "+wrap(x, parens(200))+" ;") {
			t.Errorf("%q can't stand within 200", x)
		}
	}
	for _, s := range []string{"if 1 ^{ ~}", "repeat 1 ^{ ~}", "put ^[ 1 ~] = 2 ;", "put ^[ 1 ~] = get ^[ 2 ~] ;", "out ^- 1 ~ ;", "if ^( 1 ~) ^{ ~}", "if 1 ^{ ~} else ^{ ~}"} {
		// The procedure's own block is around them.
		if !checkNest(t, "proc p ^( ~) ^{ "+wrap(s, blocks(198))+" ~}") || checkNest(t, "proc p ^( ~) ^{ "+wrap(s, blocks(199))+" ~}") {
			t.Errorf("%q stands within too few or too many", s)
		}
	}
	// An if behind an else opens its whole cond: its own expression and blocks stand within it.
	for _, s := range []string{"if 1 ^{ ~} else ^if 2 ^{ ~} ~", "if 1 ^{ ~} else ^if ^- 2 ~ ^{ ~} ~", "if 1 ^{ ~} else ^if 2 ^{ ~} else ^{ ~} ~"} {
		if !checkNest(t, "proc p ^( ~) ^{ "+wrap(s, blocks(197))+" ~}") || checkNest(t, "proc p ^( ~) ^{ "+wrap(s, blocks(198))+" ~}") {
			t.Errorf("%q stands within too few or too many", s)
		}
	}
	for _, s := range []string{"stop ;", "out 1 ;", "del a ;", "a = 1 ;"} {
		if !checkNest(t, "proc p ^( ~) ^{ "+wrap(s, blocks(199))+" ~}") {
			t.Errorf("%q can't stand within 200", s)
		}
	}
}

// often is how often a thing stands within itself: about as often as may be, if it opens 1, 2 or 3.
func often() []int {
	var out []int
	for n := range 7 {
		out = append(out, 63+n, 97+n, 197+n)
	}
	return out
}

// 18.2: one thing within itself again and again.
func TestNestOfOne(t *testing.T) {
	for _, r := range roundExpr() {
		took, refusals := 0, 0
		for _, n := range often() {
			inner := "1"
			for range n {
				if r.unary && !strings.HasPrefix(inner, "^") && inner != "1" {
					inner = "^( " + inner + " ~)"
				}
				inner = wrap(inner, r)
			}
			if checkNest(t, "const a = "+inner+" ;") {
				took++
			} else {
				refusals++
			}
		}
		if took == 0 || refusals == 0 {
			t.Errorf("%v: %d were taken, %d refused", r, took, refusals)
		}
	}
	for _, r := range roundStmt() {
		took, refusals := 0, 0
		for _, n := range often() {
			inner := "stop ;"
			for range n {
				inner = wrap(inner, r)
			}
			if checkNest(t, "proc p ^( ~) ^{ "+inner+" ~}") {
				took++
			} else {
				refusals++
			}
		}
		if took == 0 || refusals == 0 {
			t.Errorf("%v: %d were taken, %d refused", r, took, refusals)
		}
	}
}

// 18.2: what stands beside one another is not within one another, however much it is.
func TestBesideIsNotWithin(t *testing.T) {
	for _, text := range []string{
		"const a = 1" + strings.Repeat(" + (1)", 300) + ";",
		"const a = -1" + strings.Repeat(" - -1", 300) + ";",
		"const a = 1" + strings.Repeat(" + get(b) * get[1]", 300) + ";",
		"const a = 1" + strings.Repeat(" || (a ? 1 : 2)", 300) + ";",
		"proc p() {" + strings.Repeat("if 1 { } else if 2 { } else { }", 300) + "}",
		"proc p() {" + strings.Repeat("repeat 1 { put [1] = 2; }", 300) + "}",
		strings.Repeat("proc p() { }", 300),
		strings.Repeat("const a = (1);", 300),
	} {
		parsed(t, text)
	}
	// An else that is a block of its own, and an else with an if: as deep as one another.
	chain := func(n int, link, last string) string {
		return "proc p() { if 1 { }" + strings.Repeat(link, n) + strings.Repeat(last, n) + " }"
	}
	for n := 190; n < 205; n++ {
		a, errA := source.Parse(chain(n, " else if 1 { }", ""))
		b, errB := source.Parse(chain(n, " else { if 1 { }", " }"))
		if (errA == nil) != (n <= 198) || (errB == nil) != (n <= 198) || errA == nil && !same(a, b) {
			t.Errorf("%d: %v, %v", n, errA, errB)
		}
	}
}

// 18.2: anything within anything.
func TestNestOfAny(t *testing.T) {
	random := rand.New(rand.NewSource(182))
	pick := func(list []around) around { return list[random.Intn(len(list))] }
	took := 0
	for range 400 {
		var rounds []around
		most := 90 + random.Intn(130)
		opening := around{"const a =", ";", false}
		if random.Intn(3) > 0 {
			opening = around{"proc p ^( a ~) ^{", "~}", false}
			for range random.Intn(most) {
				rounds = append(rounds, pick(roundStmt()))
			}
			rounds = append(rounds, pick(roundFirst()))
		}
		unary := false
		for len(rounds) < most {
			r := pick(roundExpr())
			if unary {
				r = pick(roundExpr()[:6])
			}
			unary = r.unary
			rounds = append(rounds, r)
		}
		if checkNest(t, wrap(wrap("1", rounds...), opening)) {
			took++
		}
	}
	if took < 100 || took > 300 {
		t.Errorf("%d were taken", took)
	}
}

// 18.2: a token that can't stand there is wrong as such, however deep it stands.
func TestSyntaxAheadOfLimit(t *testing.T) {
	in := "const a = " + strings.Repeat("(", 200)
	refused(t, in+"1 (", 1, 213, api.ErrSyntax)
	refused(t, in+"1 [", 1, 213, api.ErrSyntax)
	refused(t, in+"1 {", 1, 213, api.ErrSyntax)
	refused(t, in+"[", 1, 211, api.ErrSyntax)
	refused(t, in+"?", 1, 211, api.ErrSyntax)
	refused(t, in+"1 !", 1, 213, api.ErrSyntax)
	refused(t, in+"has[", 1, 214, api.ErrSyntax)
	refused(t, in+"get{", 1, 214, api.ErrSyntax)
	refused(t, in+"get(", 1, 214, api.ErrLimit)
	refused(t, in+"get[", 1, 214, api.ErrLimit)
	refused(t, in+"get", 1, 214, api.ErrSyntax)
	refused(t, in+"min(", 1, 214, api.ErrLimit)
	refused(t, in+"1 ?", 1, 213, api.ErrLimit)
	refused(t, in+"-", 1, 211, api.ErrLimit)
	refused(t, in+"!", 1, 211, api.ErrLimit)
	refused(t, in+"1 -", 1, 214, api.ErrSyntax)
	refused(t, in+"1 - -", 1, 215, api.ErrLimit)
	refused(t, in+"(", 1, 211, api.ErrLimit)
	refused(t, in+"( @", 1, 213, api.ErrLex)
}
