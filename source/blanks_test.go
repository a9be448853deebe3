package source_test

import (
	"math/rand"
	"strings"
	"testing"

	"prelude/api"
	"prelude/source"
)

// gap is blanks and comments by chance, one at least.
func (m maker) gap() string {
	list := []string{" ", "\t", "\r", "\n", "\r\n", "  ", "// x\n", "//\n", "/**/", "/* x */", "/*\n*/", "// /* if @ 08\n", "/* // */", "/***/", "/*\u00e9\xff*/"}
	out := list[m.Intn(len(list))]
	for m.Intn(3) == 0 {
		out += list[m.Intn(len(list))]
	}
	return out
}

// gapBehind is a gap behind a token. A / and a comment right behind it would be another comment.
func (m maker) gapBehind(k api.Token) string {
	if k.Text == "/" {
		return " " + m.gap()
	}
	return m.gap()
}

// needsGap tells whether two tokens must have a blank or a comment between them: both are of words and numbers, or signs that are one sign together or begin a comment.
func needsGap(a, b api.Token) bool {
	if a.Kind != api.TSign && b.Kind != api.TSign {
		return true
	}
	if a.Kind != api.TSign || b.Kind != api.TSign {
		return false
	}
	first := a.Text + b.Text[:1]
	return strings.Contains(" "+longSigns+" // /* ", " "+first+" ")
}

// places is the places that stand in a tree, those within expressions left out.
func places(s api.Source) []api.Spot {
	var out []api.Spot
	for _, c := range s.Consts {
		out = append(out, c.At, c.X.At)
	}
	for _, d := range s.Procs {
		out = append(out, d.At)
		for _, list := range [][]api.Name{d.Args, d.Reads, d.Writes} {
			for _, n := range list {
				out = append(out, n.At)
			}
		}
		out = append(out, placesOf(d.Body)...)
	}
	return out
}

func placesOf(stmts []api.Stmt) []api.Spot {
	var out []api.Spot
	for _, s := range stmts {
		out = append(out, s.At, s.X.At, s.Y.At)
		out = append(out, placesOf(s.Body)...)
		out = append(out, placesOf(s.Else)...)
	}
	return out
}

// 18.6: blanks and comments mean nothing, but for places; and are needed nowhere but where two tokens would be another one.
func TestBlanksMeanNothing(t *testing.T) {
	m := maker{rand.New(rand.NewSource(186))}
	for range 1500 {
		s := m.source()
		tokens := tokenized(t, printed(t, s))
		var spread, tight strings.Builder
		if m.Intn(2) == 0 {
			spread.WriteString(m.gap())
		}
		for i, k := range tokens {
			if i > 0 && needsGap(tokens[i-1], k) {
				tight.WriteString(m.gapBehind(tokens[i-1]))
			}
			if i > 0 && (m.Intn(2) == 0 || needsGap(tokens[i-1], k)) {
				spread.WriteString(m.gapBehind(tokens[i-1]))
			}
			tight.WriteString(k.Text)
			spread.WriteString(k.Text)
		}
		if m.Intn(2) == 0 {
			spread.WriteString(m.gap())
		}
		for _, text := range []string{spread.String(), tight.String()} {
			got := parsed(t, text)
			if !same(s, got) {
				t.Fatalf("%q is %v, want %v", text, got, s)
			}
			// Places are those of the tokens in this text.
			of := map[api.Spot]int{{}: 1}
			for _, k := range tokenized(t, text) {
				of[k.At] = 1
			}
			for _, p := range places(got) {
				if of[p] == 0 {
					t.Fatalf("%q: no token stands at %v", text, p)
				}
			}
		}
	}
}

// 18.6: where a gap is needed, leaving it out makes other tokens; elsewhere it does not.
func TestWhereGapsAreNeeded(t *testing.T) {
	all := strings.Fields("a if 1 0x1 " + longSigns + " " + shortSigns)
	for _, a := range all {
		for _, b := range all {
			pair := tokenized(t, a+" "+b)
			if len(pair) != 2 {
				t.Fatalf("%q %q are %v", a, b, pair)
			}
			// A comment may begin there that never ends: then there are no tokens at all.
			glued, err := source.Tokens(a + b)
			kept := err == nil && len(glued) == 2 && glued[0].Text == a && glued[1].Text == b
			if kept == needsGap(pair[0], pair[1]) {
				t.Errorf("%q and %q: %v", a, b, glued)
			}
		}
	}
}

// 18.6: one tree of many texts.
func TestBlanksExample(t *testing.T) {
	want := parsed(t, "const a=1-b;proc p(v)writes k{put k=v+ -a;}")
	for _, text := range []string{
		" const a = 1 - b ; proc p ( v ) writes k { put k = v + - a ; } ",
		"const\na\n=\n1\n-\nb\n;\nproc\np\n(\nv\n)\nwrites\nk\n{\nput\nk\n=\nv\n+\n-\na\n;\n}\n",
		"// a\nconst/**/a/* = */=1/*\n*/-b;// proc\nproc/***/p(v)writes//\nk{put\tk=v+-a;}/* } */",
		"const a=1-b;\r\nproc p(v)\r\n\twrites k\r\n{ put k = v+-a; }\r\n//",
	} {
		if got := parsed(t, text); !same(got, want) {
			t.Errorf("%q is %v", text, got)
		}
	}
}
