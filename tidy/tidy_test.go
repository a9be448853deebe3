package tidy_test

import (
	"math"
	"slices"
	"strconv"
	"strings"
	"testing"

	"prelude/api"
	"prelude/lang"
	"prelude/tidy"
	"prelude/vm"
)

// listing is the instructions of a text as "push 2, out".
func listing(t testing.TB, text string) []api.Instr {
	t.Helper()
	var code []api.Instr
	for part := range strings.SplitSeq(text, ",") {
		words := strings.Fields(part)
		if len(words) == 0 {
			continue
		}
		op, is := lang.Op(words[0])
		var a int64
		var err error
		if len(words) == 2 {
			a, err = strconv.ParseInt(words[1], 10, 64)
		}
		if !is || err != nil || len(words) > 2 {
			t.Fatalf("%q is no instruction", part)
		}
		code = append(code, api.Instr{Op: op, A: a})
	}
	return code
}

// told is a program's listing.
func told(p api.Program) string {
	var parts []string
	for _, in := range p.Code {
		s := lang.Spell(in.Op)
		if lang.Wants(in.Op) {
			s += " " + strconv.FormatInt(in.A, 10)
		}
		parts = append(parts, s)
	}
	return strings.Join(parts, ", ")
}

// samePrograms tells whether two programs are the same.
func samePrograms(p, q api.Program) bool {
	return p.Args == q.Args && p.Reads == q.Reads && p.Writes == q.Writes && p.Locals == q.Locals && slices.Equal(p.Code, q.Code)
}

// rough is the places that Rough answers of a sound program.
func rough(t testing.TB, p api.Program) []int {
	t.Helper()
	places, e := tidy.Rough(p)
	if e != api.OK {
		t.Fatalf("Rough of %s is %d", told(p), e)
	}
	return places
}

// call is args and reads.
type call struct {
	args  []int64
	cells []api.Cell
}

// calls is some calls of a program, the n-th of whose numbers is what the function says.
func calls(p api.Program, times int, number func(n int) int64) []call {
	var out []call
	n := 0
	next := func() int64 {
		n++
		return number(n - 1)
	}
	for range times {
		var c call
		for range p.Args {
			c.args = append(c.args, next())
		}
		for range p.Reads {
			if v := next(); v == 7 {
				c.cells = append(c.cells, api.Cell{})
			} else {
				c.cells = append(c.cells, api.Cell{Is: true, Value: v})
			}
		}
		out = append(out, c)
	}
	return out
}

// byTurns is the numbers by turns.
func byTurns(n int) int64 { return numbers[n%len(numbers)] }

// does asks that q does the same as p in no more steps, at some calls.
func does(t testing.TB, p, q api.Program, at []call) {
	t.Helper()
	for _, c := range at {
		a, e := vm.Run(p, c.args, c.cells)
		b, f := vm.Run(q, c.args, c.cells)
		if e != api.OK || f != api.OK {
			t.Fatalf("%s, %s: Run is %d, %d", told(p), told(q), e, f)
		}
		if a.Commit != b.Commit || a.Code != b.Code || a.User != b.User || !slices.Equal(a.Out, b.Out) || !slices.Equal(a.Puts, b.Puts) || b.Steps > a.Steps {
			t.Fatalf("%s of %v: %v, and tidied, %s: %v", told(p), c, a, told(q), b)
		}
	}
}

// tidied is Tidy of a sound program, of which everything is asked that 20.2 promises, and 20.5.
func tidied(t testing.TB, p api.Program, at []call) api.Program {
	t.Helper()
	q, e := tidy.Tidy(p)
	if e != api.OK {
		t.Fatalf("Tidy of %s is %d", told(p), e)
	}
	if e := lang.Verify(q); e != api.OK {
		t.Fatalf("%s is tidied %s, which is not sound: %d", told(p), told(q), e)
	}
	if left := roughPlaces(q); len(left) > 0 || len(rough(t, q)) > 0 {
		t.Fatalf("%s is tidied %s, which is rough at %v", told(p), told(q), left)
	}
	if q.Args != p.Args || q.Reads != p.Reads || q.Writes != p.Writes || q.Locals != p.Locals {
		t.Fatalf("%s: %v has other numbers than %v", told(p), q, p)
	}
	if len(q.Code) > len(p.Code) || longest(q) > longest(p) {
		t.Fatalf("%s is tidied %s, which is longer", told(p), told(q))
	}
	if len(roughPlaces(p)) == 0 && !samePrograms(p, q) {
		t.Fatalf("%s is tidy, and tidied %s", told(p), told(q))
	}
	does(t, p, q, at)
	again, e := tidy.Tidy(q)
	if e != api.OK || !samePrograms(q, again) {
		t.Fatalf("%s is tidied %s, and that %s, %d", told(p), told(q), told(again), e)
	}
	return q
}

// becomes asks where a program is rough, and what it is when it is tidied.
func becomes(t *testing.T, p api.Program, want []int, code string) {
	t.Helper()
	places := rough(t, p)
	if !slices.Equal(places, want) || !slices.Equal(roughPlaces(p), want) {
		t.Errorf("%s is rough at %v, by the letter at %v, want %v", told(p), places, roughPlaces(p), want)
	}
	q := tidied(t, p, calls(p, 20, byTurns))
	if !slices.Equal(q.Code, listing(t, code)) {
		t.Errorf("%s is tidied %s, want %s", told(p), told(q), code)
	}
}

// stays asks that a program is tidy.
func stays(t *testing.T, p api.Program) {
	t.Helper()
	becomes(t, p, nil, told(p))
}

// 20.1, 20.2: the chapter's examples.
func TestExamples(t *testing.T) {
	plain := func(code string) api.Program { return api.Program{Code: listing(t, code)} }
	becomes(t, plain("push 2, push 3, add, out"), []int{0}, "push 5, out")
	stays(t, plain("push 5, out"))
	stays(t, plain("push 1, push 0, div, out"))
	becomes(t, plain("jump 1, push 1, out"), []int{0}, "push 1, out")
	becomes(t, plain("stop, push 1, pop"), []int{1, 2}, "")
	becomes(t, plain("push 0, zero 4, push 7, out, push 8, out"), []int{0}, "push 8, out")
	becomes(t, plain("push 1, zero 4, push 7, out, push 8, out"), []int{0}, "push 7, out, push 8, out")
	oneArg := func(code string) api.Program { return api.Program{Args: 1, Code: listing(t, code)} }
	becomes(t, oneArg("arg 0, zero 3, stop, jump 5, stop, push 1, out"), []int{1, 4}, "arg 0, zero 3, stop, push 1, out")
	stays(t, oneArg("arg 0, arg 0, zero 4, neg, neg, out"))
	becomes(t, api.Program{Reads: 1, Writes: 1, Code: listing(t, "get 0, push 0, add, neg, neg, put 0")}, []int{1, 3}, "get 0, put 0")
	becomes(t, api.Program{Reads: 1, Code: listing(t, "push 0, getx, pop")}, []int{0}, "")
	becomes(t, api.Program{Writes: 2, Code: listing(t, "push 1, push 9, putx")}, []int{0}, "push 9, put 1")
	stays(t, api.Program{Writes: 1, Code: listing(t, "push 1, push 9, putx")})
	p := api.Program{Code: slices.Repeat(listing(t, "push 1"), 33)}
	if q, e := tidy.Tidy(p); e != api.ErrStack || !samePrograms(q, api.Program{}) {
		t.Errorf("%v, %d", q, e)
	}
}

// 20.1, 20.2: the empty program, with and without numbers, is tidy; so are the longest programs, and those with the highest stack.
func TestTidyAlready(t *testing.T) {
	stays(t, api.Program{})
	stays(t, api.Program{Args: 16, Reads: 16, Writes: 16, Locals: 16})
	stays(t, api.Program{Code: []api.Instr{}})
	stays(t, api.Program{Args: 16, Reads: 15, Writes: 14, Locals: 13, Code: slices.Repeat(listing(t, "arg 15, out"), 128)})
	stays(t, api.Program{Code: slices.Repeat(listing(t, "push 1"), 32)})
	stays(t, api.Program{Args: 1, Code: slices.Repeat(listing(t, "arg 0"), 32)})
}

// 20.1, 20.2: the longest programs of which nothing, or hardly anything, is left.
func TestLongest(t *testing.T) {
	becomes(t, api.Program{Code: slices.Repeat(listing(t, "stop"), 256)}, span(1, 256), "")
	becomes(t, api.Program{Code: slices.Repeat(listing(t, "push 5, pop"), 128)}, steps(0, 256, 2), "")
	var chain, zeros []api.Instr
	for i := range int64(256) {
		chain = append(chain, api.Instr{Op: api.IJump, A: i + 1})
		zeros = append(zeros, api.Instr{Op: api.IPush, A: 0}, api.Instr{Op: api.IZero, A: 2*i + 2})
	}
	becomes(t, api.Program{Code: chain}, span(0, 256), "")
	becomes(t, api.Program{Code: zeros[:256]}, steps(0, 256, 2), "")
	sum := listing(t, "push 1")
	for range 127 {
		sum = append(sum, listing(t, "push 1, add")...)
	}
	becomes(t, api.Program{Code: append(sum, api.Instr{Op: api.IOut})}, []int{0}, "push 128, out")
	nest := append(slices.Repeat(listing(t, "push 3"), 32), slices.Repeat(listing(t, "max"), 31)...)
	becomes(t, api.Program{Code: append(nest, api.Instr{Op: api.IOut})}, []int{30}, "push 3, out")
}

// span is the numbers from one on up to another.
func span(from, to int) []int { return steps(from, to, 1) }

// steps is each so manieth number from one on up to another.
func steps(from, to, by int) []int {
	var out []int
	for n := from; n < to; n += by {
		out = append(out, n)
	}
	return out
}

// 20.1, 20.2, 20.3: what is not sound is lang.Verify's error, and nothing else is answered.
func TestNotSound(t *testing.T) {
	for _, c := range []struct {
		p api.Program
		e api.Errno
	}{
		{api.Program{Args: 17}, api.ErrProgram},
		{api.Program{Args: -1}, api.ErrProgram},
		{api.Program{Reads: 17, Code: listing(t, "pop")}, api.ErrProgram},
		{api.Program{Writes: -1}, api.ErrProgram},
		{api.Program{Locals: math.MaxInt}, api.ErrProgram},
		{api.Program{Locals: math.MinInt}, api.ErrProgram},
		{api.Program{Code: slices.Repeat(listing(t, "stop"), 257)}, api.ErrProgram},
		{api.Program{Code: []api.Instr{{Op: 37}}}, api.ErrOp},
		{api.Program{Code: []api.Instr{{Op: -1}}}, api.ErrOp},
		{api.Program{Code: []api.Instr{{Op: api.IStop}, {Op: math.MaxInt}}}, api.ErrOp},
		{api.Program{Code: listing(t, "jump 0")}, api.ErrJump},
		{api.Program{Code: listing(t, "jump 2")}, api.ErrJump},
		{api.Program{Code: listing(t, "stop, jump -1")}, api.ErrJump},
		{api.Program{Code: listing(t, "stop, jump 9223372036854775807")}, api.ErrJump},
		{api.Program{Code: listing(t, "push 1, zero 1")}, api.ErrJump},
		{api.Program{Code: listing(t, "arg 0, pop")}, api.ErrArg},
		{api.Program{Args: 1, Code: listing(t, "stop, arg 1")}, api.ErrArg},
		{api.Program{Code: []api.Instr{{Op: api.IStop, A: 1}}}, api.ErrArg},
		{api.Program{Code: listing(t, "neg, neg")}, api.ErrStack},
		{api.Program{Code: listing(t, "push 5, zero 3, push 1")}, api.ErrStack},
		{api.Program{Code: slices.Repeat(listing(t, "push 1"), 33)}, api.ErrStack},
	} {
		if places, e := tidy.Rough(c.p); e != c.e || len(places) > 0 {
			t.Errorf("Rough of %v is %v, %d, want %d", c.p, places, e, c.e)
		}
		if q, e := tidy.Tidy(c.p); e != c.e || !samePrograms(q, api.Program{}) {
			t.Errorf("Tidy of %v is %v, %d, want %d", c.p, q, e, c.e)
		}
		good := api.Proc{Name: "good", Program: api.Program{Code: listing(t, "stop")}}
		if lib, e := tidy.Library([]api.Proc{good, {Name: "bad", Program: c.p}, good}); e != c.e || len(lib) > 0 {
			t.Errorf("Library with %v is %v, %d, want %d", c.p, lib, e, c.e)
		}
	}
}
