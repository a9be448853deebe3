package exec_test

import (
	"math"
	"slices"
	"testing"

	"prelude/api"
	"prelude/exec"
	"prelude/lang"
)

// wrongLibs is lists of procedures that are no libraries.
func wrongLibs() [][]api.Proc {
	one := func(p api.Program) []api.Proc { return []api.Proc{{Name: "good"}, {Name: "p", Program: p}} }
	code := func(list ...api.Instr) api.Program { return api.Program{Code: list} }
	return [][]api.Proc{
		make([]api.Proc, api.MaxProcs+1),
		{{Name: ""}}, {{Name: "1x"}}, {{Name: "p"}, {Name: "p"}},
		one(api.Program{Args: api.MaxArgs + 1}),
		one(api.Program{Reads: -1}),
		one(code(api.Instr{Op: api.NumOps})),
		one(code(api.Instr{Op: api.IStop, A: 1})),
		one(code(api.Instr{Op: api.IJump})),
		one(code(api.Instr{Op: api.IPop})),
	}
}

// 12.1: what is no library is refused by lang.Check's error, whatever the number of hands is; then the number is looked at.
func TestNew(t *testing.T) {
	w := example(t, 2)
	wrong := []int{math.MinInt, -1 << 32, -1, 0, api.MaxHands + 1, 1<<32 + 1, math.MaxInt}
	for _, lib := range wrongLibs() {
		_, want := lang.Check(lib)
		for _, hands := range append(wrong, 1, api.MaxHands) {
			if x, e := exec.New(w.b, w.st, lib, hands); x != nil || e != want || e == api.OK {
				t.Errorf("New(%v, %d): %v, %d, not %d", lib, hands, x, e, want)
			}
		}
	}
	for _, lib := range [][]api.Proc{nil, {}, w.lib} {
		for _, hands := range wrong {
			if x, e := exec.New(w.b, w.st, lib, hands); x != nil || e != api.ErrHands {
				t.Errorf("New(%d): %v, %d", hands, x, e)
			}
		}
	}
}

// 12.1: as many hands as were asked for, with empty stacks; New does nothing to board and store.
func TestAsManyHands(t *testing.T) {
	for _, hands := range []int{1, 2, 7, 63, api.MaxHands} {
		w := laid(t, hands, slices.Repeat([]api.Tx{put(1, 1)}, 64), slices.Repeat([]api.Tx{put(1, 2)}, 64))
		for h := range hands {
			w.stack(t, h)
			if !w.x.Ready(h) {
				t.Errorf("of %d hands %d is not ready", hands, h)
			}
		}
		w.waits(t, math.MinInt, -1, hands, hands+1, 64, math.MaxInt)
		for _, h := range []int{math.MinInt, -1, hands, hands + 1, math.MaxInt} {
			w.stack(t, h)
		}
		was := w.told()
		if _, e := exec.New(w.b, w.st, w.lib, hands); e != api.OK || w.told() != was {
			t.Errorf("a second New(%d): %d, and it has left %s, not %s", hands, e, w.told(), was)
		}
		for h := range hands {
			w.steps(t, h, 1)
			w.stack(t, h, p(1+2*h/64, 2*h%64)) // of those that are left the one with the hand's number
		}
	}
}

// greatest is a library of the greatest form: 64 procedures, the last one with as many of everything as may be.
func greatest() []api.Proc {
	var lib []api.Proc
	for i := range api.MaxProcs {
		lib = append(lib, api.Proc{Name: "p" + string(rune('a'+i/26)) + string(rune('a'+i%26))})
	}
	last := api.Program{Args: api.MaxArgs, Reads: api.MaxReads, Writes: api.MaxWrites, Locals: api.MaxLocals}
	for i := range int64(api.MaxOut) {
		last.Code = append(last.Code, api.Instr{Op: api.IGet, A: i}, api.Instr{Op: api.IOut}, api.Instr{Op: api.IArg, A: i}, api.Instr{Op: api.IPut, A: i})
	}
	for len(last.Code) < api.MaxCode {
		last.Code = append(last.Code, api.Instr{Op: api.IDel, A: 15})
	}
	lib[api.MaxProcs-1].Program = last
	return lib
}

// 12.1, 12.6: the greatest library, and the greatest transaction.
func TestGreatest(t *testing.T) {
	w := plan{lib: greatest(), parts: 256, capacity: 100, workers: 64, ahead: 16, hands: 64}.make(t)
	x := api.Tx{Proc: 63, Reads: run(-3, 16), Writes: run(5, 16)}
	for i := range int64(16) {
		x.Args = append(x.Args, math.MaxInt64-i)
	}
	w.posts(t, []api.Tx{x, x})
	w.lays()
	if n := w.rests(); n != 2*(2+16+16+256) {
		t.Errorf("%d steps", n)
	}
	first, second := api.Outcome{Commit: true, Out: make([]int64, 16), Read: make([]api.Cell, 16)}, api.Outcome{Commit: true, Out: make([]int64, 16), Read: make([]api.Cell, 16)}
	for i := range 8 { // the rows 5 to 12
		second.Read[8+i], second.Out[8+i] = is(x.Args[i]), x.Args[i]
	}
	w.outcome(t, p(1, 0), first)
	w.outcome(t, p(1, 1), second)
	for i, k := range x.Writes {
		want := is(x.Args[i])
		if i == 15 {
			want = api.Cell{}
		}
		if chain := w.st.Chain(k); len(chain) != 2 || !chain[0].Filled || chain[0].Cell != want || chain[1].Cell != want {
			t.Errorf("at %v there stand %v", k, chain)
		}
	}
}

// 12.1: the library is taken as it is at New, and not changed.
func TestLibraryIsTaken(t *testing.T) {
	lib := slices.Grow(bank(t), 4)
	for i := range lib {
		lib[i].Program.Code = slices.Grow(lib[i].Program.Code, 4)
	}
	l := small(t, 2)
	l.lib = lib
	w, other := l.make(t), example(t, 2)
	w.posts(t, []api.Tx{put(10, 1), put(5, 2)}, []api.Tx{move(4, 1, 2), move(20, 1, 2)})
	w.lays()
	w.steps(t, 0, 2)
	other.steps(t, 0, 2)
	for i, was := range bank(t) {
		if lib[i].Name != was.Name || !slices.Equal(lib[i].Program.Code, was.Program.Code) {
			t.Errorf("procedure %d has become %v", i, lib[i])
		}
	}
	for i := range lib {
		code := lib[i].Program.Code[:cap(lib[i].Program.Code)]
		for at := range code {
			code[at] = api.Instr{Op: api.IAbort}
		}
		lib[i] = api.Proc{Program: api.Program{Args: 9}}
	}
	w.rests()
	other.rests()
	if is, want := w.told(), other.told(); is != want {
		t.Errorf("it is %s, not %s", is, want)
	}
}

// 12.1: of the empty library no transaction is sound.
func TestEmptyLibrary(t *testing.T) {
	w := plan{parts: 1, capacity: 9, workers: 1, ahead: 1, hands: 1}.make(t)
	w.posts(t, []api.Tx{{}, bump(1)})
	w.lays()
	w.steps(t, 0, 2)
	w.steps(t, 0, 4)
	w.waits(t, 0)
	w.outcome(t, p(1, 0), api.Outcome{Code: api.ErrProc})
	w.outcome(t, p(1, 1), api.Outcome{Code: api.ErrProc, Read: make([]api.Cell, 1)})
}

// R4: what Stack answers is new memory each time.
func TestStackIsNew(t *testing.T) {
	w := example(t, 64)
	w.steps(t, 63, 3)
	first, second := w.x.Stack(63), w.x.Stack(63)
	first = first[:cap(first)]
	for i := range first {
		first[i] = p(-1, -1)
	}
	if want := []api.Place{p(2, 1), p(2, 0), p(1, 0)}; !slices.Equal(second, want) {
		t.Errorf("the other answer is %v", second)
	}
	w.stack(t, 63, p(2, 1), p(2, 0), p(1, 0))
	second = append(second, p(9, 9))
	w.stack(t, 63, p(2, 1), p(2, 0), p(1, 0))
	third := w.x.Stack(63)
	w.rests()
	if !slices.Equal(third, []api.Place{p(2, 1), p(2, 0), p(1, 0)}) {
		t.Errorf("an earlier answer has become %v", third)
	}
}

// R6: hands of two boards know nothing of one another.
func TestTwoWorlds(t *testing.T) {
	alone, one, two := example(t, 2), example(t, 2), example(t, 2)
	for i := range 60 {
		alone.x.Step(i % 2)
		one.x.Step(i % 2)
		two.x.Step(i / 7 % 2)
		if is, want := one.told(), alone.told(); is != want {
			t.Fatalf("behind %d steps it is %s, not %s", i+1, is, want)
		}
	}
}
