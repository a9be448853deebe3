package compile_test

import (
	"errors"
	"math/rand"
	"strings"
	"testing"

	"prelude/api"
	"prelude/asm"
	"prelude/compile"
	"prelude/lang"
	"prelude/source"
)

// 19.5: the library is sound: its bytes and its listing are read back as the library.
func TestSound(t *testing.T) {
	m := newMaker(195, 0)
	n := 0
	for range 3000 {
		s := m.source()
		lib, err := compile.Compile(s)
		if err != nil {
			continue
		}
		n++
		if at, e := lang.Check(lib); e != api.OK {
			t.Fatalf("%v: procedure %d is not sound, by %d", s, at, e)
		}
		b, e := lang.Encode(lib)
		if again, _, f := lang.Decode(b); e != api.OK || f != api.OK || !sameLibrary(lib, again) {
			t.Fatalf("%v: %d, %d, is %v, was %v", s, e, f, again, lib)
		}
		text, e := asm.List(lib)
		if again, err := asm.Assemble(text); e == api.OK && (err != nil || !sameLibrary(lib, again)) {
			t.Fatalf("%v: is %v, was %v", s, again, lib)
		}
	}
	if n < 1500 {
		t.Errorf("%d were sources", n)
	}
}

// 19.5: there and back through the text: the same library, or the same error but for its place.
func TestThroughText(t *testing.T) {
	wrongs, rights := 0, 0
	for seed, wrong := range []int{0, 100, 25} {
		m := newMaker(int64(1950+seed), wrong)
		for range 2500 {
			s := m.source()
			text, e := source.Print(s)
			if e != api.OK {
				t.Fatalf("%v is not written, by %d", s, e)
			}
			want, no := compile.Compile(s)
			lib, err := compile.Compile(parsed(t, text))
			built, bad := compile.Build(text)
			if no != nil {
				wrongs++
				if errors.Unwrap(err) != errors.Unwrap(no) || errors.Unwrap(bad) != errors.Unwrap(no) || lib != nil || built != nil {
					t.Fatalf("%q is %v, %v, want %v", text, err, bad, no)
				}
				continue
			}
			rights++
			if err != nil || bad != nil || !sameLibrary(lib, want) || !sameLibrary(built, want) {
				t.Fatalf("%q is\n%v, %v, want\n%v", text, lib, err, want)
			}
		}
	}
	if wrongs < 1000 || rights < 1000 {
		t.Errorf("%d were wrong, %d right", wrongs, rights)
	}
}

// gap is blanks and comments by chance, at least so many blanks.
func gap(r *rand.Rand, blanks int) string {
	out := strings.Repeat(" ", blanks)
	for r.Intn(2) == 0 {
		out += []string{" ", "\t", "\r\n", "\n\n", "/**/", "/* const a = 1; \n // */", "// x } \n", "//\n", "/*/ proc */"}[r.Intn(9)]
	}
	return out
}

// 19.5: blanks and comments change nothing of the library. (A blank stands wherever two tokens would be one, or a sign and a comment another comment.)
func TestBlanksAndComments(t *testing.T) {
	m := newMaker(1955, 0)
	r := rand.New(rand.NewSource(1956))
	for range 1500 {
		text, _ := source.Print(m.source())
		want, no := compile.Build(text)
		tokens, err := source.Tokens(text)
		if err != nil {
			t.Fatal(err)
		}
		var other strings.Builder
		other.WriteString(gap(r, 0))
		for _, k := range tokens {
			other.WriteString(k.Text + gap(r, 1))
		}
		lib, err := compile.Build(other.String())
		if no == nil && (err != nil || !sameLibrary(lib, want)) || no != nil && errors.Unwrap(err) != errors.Unwrap(no) {
			t.Fatalf("%q is %v, %v, want %v, %v", other.String(), lib, err, want, no)
		}
	}
	const tight = "const k=2;proc p(a)reads r writes w{if a{put w=get(r)+k;}else{out-a;}}"
	const loose = " /*\n*/ const k // two\n = 2 ;\r\n\tproc p ( a ) reads r writes w\n{ if(a) { put w = (get(r))+k; } else { out(-a); } } // end"
	if one, other := built(t, tight), built(t, loose); !sameLibrary(one, other) {
		t.Errorf("is %v and %v", one, other)
	}
}

// How constants and procedures stand among one another leaves no trace.
func TestOrderOfConstantsAndProcedures(t *testing.T) {
	one := built(t, "const a = 1; const b = a + 1; proc p() { out b; } proc q() { out a; }")
	other := built(t, "proc p() { out b; } const a = 1; proc q() { out a; } const b = a + 1;")
	if !sameLibrary(one, other) {
		t.Errorf("is %v and %v", one, other)
	}
}
