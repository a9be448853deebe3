package crew_test

import (
	"fmt"
	"slices"
	"testing"

	"prelude/api"
)

// roomy is a list with spare room behind its end, that holds marks.
func roomy[E any](list []E, mark E) []E {
	return slices.Concat(list, slices.Repeat([]E{mark}, 8))[:len(list)]
}

// spoil writes over a list, and over the spare room behind its end.
func spoil[E any](list []E, with E) {
	list = list[:cap(list)]
	for i := range list {
		list[i] = with
	}
}

// whole is a list with the spare room behind its end.
func whole[E any](list []E) []E { return list[:cap(list)] }

// roomyLib is a library all of whose lists have spare room.
func roomyLib(t *testing.T) []api.Proc {
	t.Helper()
	lib := bank(t)
	for i := range lib {
		lib[i].Program.Code = roomy(lib[i].Program.Code, api.Instr{Op: 77, A: 7})
	}
	return roomy(lib, api.Proc{Name: "mark"})
}

// roomyLog is batches all of whose lists have spare room.
func roomyLog(b log) log {
	own := make(log, len(b))
	for i, list := range b {
		own[i] = slices.Clone(list)
		for j, x := range own[i] {
			own[i][j].Args = roomy(x.Args, 77)
			own[i][j].Reads = roomy(x.Reads, api.Key{Table: 7, Row: 77})
			own[i][j].Writes = roomy(x.Writes, api.Key{Table: 8, Row: 88})
		}
		own[i] = roomy(own[i], api.Tx{Proc: 99})
	}
	return roomy(own, []api.Tx{{Proc: 98}})
}

// text is all that was handed in, spare room too.
func text(lib []api.Proc, b log) string {
	s := fmt.Sprint(whole(lib))
	for _, p := range lib {
		s += fmt.Sprint(whole(p.Program.Code))
	}
	for _, list := range whole(b) {
		s += fmt.Sprint(whole(list))
		for _, x := range list {
			s += fmt.Sprint(whole(x.Args), whole(x.Reads), whole(x.Writes))
		}
	}
	return s
}

// telling is batches whose outcomes have lists of every kind.
func telling() log {
	return append(example(), []api.Tx{bump(1), bump(1), tx(pShow, set(1, 2), nil)}, nil, []api.Tx{tx(pShow, set(2, 3), nil), {Proc: pLate, Args: []int64{1, 1}, Reads: set(2), Writes: set(2, 3)}, bump(2)})
}

// 16.4: what is handed in is not changed, where it is run and where it is refused.
func TestNotChanged(t *testing.T) {
	lib, b := roomyLib(t), roomyLog(telling())
	was := text(lib, b)
	for _, l := range append(layouts(), api.Layout{}) {
		if l.Workers > 0 {
			b.run(t, l, lib)
		} else {
			refuses(t, l, lib, b, api.ErrWorkers)
		}
		if is := text(lib, b); is != was {
			t.Fatalf("%v: it is %s, not %s", l, is, was)
		}
	}
}

// 16.4: what is handed in is not kept: who changes it later changes no answer.
func TestNotKept(t *testing.T) {
	want := telling().plain(t, bank(t))
	for _, l := range layouts() {
		lib, b := roomyLib(t), roomyLog(telling())
		got := b.run(t, l, lib)
		for _, list := range b {
			for _, x := range list {
				spoil(x.Args, -99)
				spoil(x.Reads, api.Key{Table: 5, Row: 55})
				spoil(x.Writes, api.Key{Table: 6, Row: 66})
			}
			spoil(list, api.Tx{Proc: 97})
		}
		spoil(b, nil)
		for _, p := range lib {
			spoil(p.Program.Code, api.Instr{Op: api.IPush, A: 99})
		}
		spoil(lib, api.Proc{Name: "spoilt"})
		if !got.same(want) {
			t.Fatalf("%v: %v, not %v", l, got, want)
		}
	}
}

// spoilers is a call for each list of an answer, that writes over it and tells what the answer is then.
func spoilers(want answer) []func(a answer) answer {
	mark := api.Outcome{Code: 77, Out: []int64{7}}
	list := []func(a answer) answer{
		func(a answer) answer { spoil(a.rows, api.Row{Value: -7}); return answer{a.outcomes, want.rows} },
		func(a answer) answer { spoil(a.outcomes, nil); return answer{want.outcomes, a.rows} },
	}
	for n := range want.outcomes {
		list = append(list, func(a answer) answer {
			spoil(a.outcomes[n], mark)
			a.outcomes[n] = want.outcomes[n]
			return a
		})
		for i, o := range want.outcomes[n] {
			list = append(list, func(a answer) answer {
				spoil(a.outcomes[n][i].Out, -7)
				a.outcomes[n][i].Out = o.Out
				return a
			}, func(a answer) answer {
				spoil(a.outcomes[n][i].Read, api.Cell{Is: true, Value: -7})
				a.outcomes[n][i].Read = o.Read
				return a
			})
		}
	}
	return list
}

// 16.4: what is answered is new memory: who writes over a list of an answer changes no other list of it, and no other answer.
func TestNewMemory(t *testing.T) {
	lib, b := bank(t), telling()
	want := b.plain(t, lib)
	was := text(lib, b)
	for _, l := range []api.Layout{one(), all()} {
		other := b.run(t, l, lib)
		for i, spoiler := range spoilers(want) {
			if got := spoiler(b.run(t, l, lib)); !got.same(want) {
				t.Fatalf("%v: list %d: %v, not %v", l, i, got, want)
			}
		}
		if !other.same(want) || !b.run(t, l, lib).same(want) {
			t.Errorf("%v: another answer has changed", l)
		}
		if is := text(lib, b); is != was {
			t.Errorf("%v: what was handed in is %s, not %s", l, is, was)
		}
	}
}
