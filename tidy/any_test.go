package tidy_test

import (
	"slices"
	"sync"
	"testing"

	"prelude/api"
	"prelude/compile"
	"prelude/lang"
	"prelude/tidy"
	"prelude/vm"
)

// holds asks of any program all that the chapter promises.
func holds(t testing.TB, p api.Program, at []call) api.Program {
	t.Helper()
	if want, places := roughPlaces(p), rough(t, p); !slices.Equal(places, want) {
		t.Fatalf("%s (%v) is rough at %v, want %v", told(p), p, places, want)
	}
	return tidied(t, p, at)
}

// 20.1, 20.2, 20.5: any programs.
func TestAnyPrograms(t *testing.T) {
	m := newMaker(20)
	seen := map[int]int{}
	codes := map[api.Errno]int{}
	shorter, blocked, tidy := 0, 0, 0
	for i := range 12000 {
		p := m.program(i%50, i%13)
		at := m.calls(p, 6)
		q := holds(t, p, at)
		l := newLetter(p)
		rest := *l
		rest.lands = nil
		for place := range p.Code {
			for _, rule := range l.rules(place) {
				seen[rule]++
			}
			if len(rest.rules(place)) > len(l.rules(place)) {
				blocked++
			}
		}
		shorter += len(p.Code) - len(q.Code)
		if samePrograms(p, q) {
			tidy++
		}
		for _, c := range at {
			effect, _ := vm.Run(p, c.args, c.cells)
			codes[effect.Code]++
		}
	}
	for rule := 1; rule <= 12; rule++ {
		if seen[rule] < 200 {
			t.Errorf("only %d spots of R%d", seen[rule], rule)
		}
	}
	for _, e := range []api.Errno{api.OK, api.FaultAbort, api.FaultDivide, api.FaultShift, api.FaultIndex} {
		if codes[e] < 200 {
			t.Errorf("only %d that end by %d", codes[e], e)
		}
	}
	if shorter < 50000 || blocked < 200 || tidy < 100 {
		t.Errorf("%d instructions fewer, %d spots that a landing hinders, %d tidy programs", shorter, blocked, tidy)
	}
}

// 20.1, 20.2, 20.5: any programs of the greatest length.
func TestAnyLongPrograms(t *testing.T) {
	m := newMaker(2020)
	for range 150 {
		p := m.straight(150)
		for len(p.Code) < api.MaxCode-1 {
			p = m.jumping(p)
		}
		holds(t, p, m.calls(p, 6))
	}
}

// 20.1, 20.2, 20.5: all programs of four of some few instructions.
func TestAllShortPrograms(t *testing.T) {
	few := listing(t, "stop, push 0, push 1, push 2, pop, dup, arg 0, getx, add, div, neg, jump 1, jump 2, jump 3, jump 4, zero 2, zero 3, zero 4, put 0, putx, out, abort")
	sound := 0
	p := api.Program{Args: 1, Reads: 1, Writes: 1}
	at := calls(p, 5, byTurns)
	var longer func(code []api.Instr, size int)
	longer = func(code []api.Instr, size int) {
		if size == 0 {
			p.Code = code
			if lang.Verify(p) == api.OK {
				sound++
				holds(t, p, at)
			}
			return
		}
		for _, in := range few {
			longer(append(code[:len(code):len(code)], in), size-1)
		}
	}
	for size := range 5 {
		longer(nil, size)
	}
	if sound < 5000 {
		t.Errorf("only %d are sound", sound)
	}
}

// sources are texts of some procedures.
var sources = []string{
	`proc move(amount) reads from, to writes from, to {
		if get(from) < amount { abort 1; }
		put from = get(from) - amount;
		put to = get(to) + amount;
	}`,
	`const k = 3;
	proc a(x, y) reads r, s writes v, w {
		let n = 2 * k + 0;
		if x && y || !has(r) { put [1] = n * 1; } else if get(r) >= x { put [0] = - -x; }
		repeat k { n = n + get[1] - 0; out n; }
		out x ? (y ? 1 : 2) : (y && k ? 3 : -4);
		if 0 { abort x / 0; } else { del w; }
		if y == 7 { stop; out 9; }
		abort 1 / 0;
		out 5;
	}
	proc b(x) { if x { stop; } else { stop; } out 1 && 1 || 0; }
	proc c() writes w { put [0] = 1 ? 2 : 3; put [1] = 4; }`,
	`proc d(x, y, z) reads r {
		out (x || y) && (y || z) && (z || x);
		if x { if y { if z { out 1; } else { out 2; } } else { out 3; } } else { out 4; }
		out get[0] + get[1 - 1] * (0 + 1) / 1;
		out min(3, 4) << 2 >> 0;
		stop;
	}`,
}

// W11: what the compiler writes does the same, tidied, and in fewer instructions.
func TestCompiled(t *testing.T) {
	for _, text := range sources {
		lib, err := compile.Build(text)
		if err != nil {
			t.Fatal(err)
		}
		for i, p := range lib {
			q := holds(t, p.Program, calls(p.Program, 200, byTurns))
			if len(roughPlaces(p.Program)) > 0 && len(q.Code) == len(p.Program.Code) {
				t.Errorf("procedure %d: %s stays %d instructions", i, told(p.Program), len(q.Code))
			}
		}
	}
}

// 20.2: it is the same each time, whoever else asks.
func TestSameEachTime(t *testing.T) {
	m := newMaker(2002)
	var programs []api.Program
	for i := range 200 {
		programs = append(programs, m.program(60, i%20))
	}
	answers := make([][]api.Program, 8)
	var wait sync.WaitGroup
	for i := range answers {
		wait.Go(func() {
			for _, p := range programs {
				q, _ := tidy.Tidy(p)
				answers[i] = append(answers[i], q)
			}
		})
	}
	wait.Wait()
	for i := range answers {
		if !slices.EqualFunc(answers[i], answers[0], samePrograms) {
			t.Errorf("%d is told otherwise", i)
		}
	}
}
