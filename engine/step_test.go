package engine_test

import (
	"fmt"
	"math"
	"slices"
	"testing"

	"prelude/api"
	"prelude/engine"
	"prelude/keys"
)

// 15.7: the workers stand first, behind them the hands, behind them the sweeper; a pick is one of those that are ready, by rising places, counted round.
func TestLine(t *testing.T) {
	e := open(t, api.Layout{Workers: 3, Hands: 2, Parts: 3, Ahead: 2}, 50)
	posts(t, e, 1, put(1, 1), put(2, 2), put(3, 3))
	ready(t, e, 0, 1, 2)
	number(t, "Step(-1)", e.Step(-1), 2)
	number(t, "Step(1)", e.Step(1), 1)
	number(t, "Step(3)", e.Step(3), 0)
	number(t, "Step(7)", e.Step(7), 1)
	for e.Ready()[0] < 3 {
		e.Step(0)
	}
	ready(t, e, 3, 4)
	number(t, "Step(1)", e.Step(1), 4)
	if s := e.Stack(1); !slices.Equal(s, []api.Place{place(1, 1)}) {
		t.Errorf("Stack(1): %v", s)
	}
	number(t, "Step(0)", e.Step(0), 3)
	if s := e.Stack(0); !slices.Equal(s, []api.Place{place(1, 0)}) {
		t.Errorf("Stack(0): %v", s)
	}
	e.Collect()
	for e.View().Complete < 1 {
		e.Step(0)
	}
	ready(t, e, 5)
	number(t, "Step(9)", e.Step(9), 5)
	ready(t, e)
	for _, pick := range []int{0, 1, -1, math.MinInt, math.MaxInt} {
		number(t, "Step at rest", e.Step(pick), -1)
	}
	posts(t, e, 2, bump(1))
	e.Collect()
	ready(t, e, 0, 1, 2)
}

// 15.7: the worker at a place lays the keys of its own partitions.
func TestWorkersInOrder(t *testing.T) {
	for _, l := range []api.Layout{{Workers: 2, Hands: 1, Parts: 2, Ahead: 1}, {Workers: 3, Hands: 2, Parts: 7, Ahead: 1}} {
		for n := range int64(40) {
			e := open(t, l, 8)
			posts(t, e, 1, put(1, n))
			part, _ := keys.Partition(row(n), l.Parts)
			for w := range l.Workers {
				if w == part%l.Workers {
					continue
				}
				number(t, "Step", e.Step(slices.Index(e.Ready(), w)), w)
				versions(t, e, row(n))
			}
			ready(t, e, part%l.Workers)
			e.Step(0)
			versions(t, e, row(n), api.Version{Batch: 1})
		}
	}
}

// modulo brings a pick to 0 to n - 1.
func modulo(pick, n int) int { return (pick%n + n) % n }

// 15.7: whatever is ready, a pick takes a step of the one that it names, and of no other; and Ready changes nothing.
func TestPicks(t *testing.T) {
	for _, l := range layouts() {
		e := log(t, l)
		for i := 0; ; i++ {
			list := e.Ready()
			pick := []int{i * i, -i, i, math.MinInt + i, math.MaxInt - i}[i%5]
			if len(list) == 0 {
				number(t, "Step", e.Step(pick), -1)
				break
			}
			if !slices.IsSorted(list) || list[0] < 0 || list[len(list)-1] > l.Workers+l.Hands {
				t.Fatalf("Ready: %v", list)
			}
			steps := e.View().Steps
			number(t, "Step", e.Step(pick), list[modulo(pick, len(list))])
			number(t, "Steps", e.View().Steps, steps+1)
		}
		last(t, e, row(1), value(8))
	}
}

// 15.7: Drain takes steps of the first ready task.
func TestDrain(t *testing.T) {
	for _, l := range layouts() {
		for _, begun := range []int{0, 7, 30, 80, 500} {
			e, twin := log(t, l), log(t, l)
			for range begun {
				e.Step(-1)
				twin.Step(-1)
			}
			n := 0
			for twin.Step(0) >= 0 {
				n++
			}
			number(t, "Drain", e.Drain(), n)
			if got, want := told(e), told(twin); got != want {
				t.Fatalf("%v, behind %d steps: a Drain has made this:\n%s\nnot this:\n%s", l, begun, got, want)
			}
			number(t, "Drain", e.Drain(), 0)
			number(t, "Step", e.Step(0), -1)
		}
	}
}

// 15.8: what a View tells, call by call, and that Steps counts those of every call.
func TestView(t *testing.T) {
	e := first(t, one(), 8)
	views(t, e, api.View{Latest: 2, Charge: 6})
	e.Step(0)
	views(t, e, api.View{Latest: 2, Charge: 6, Live: 1, Steps: 1})
	e.Pin(1)
	reads(t, e, 1, row(1), value(10))
	pins := []api.Pin{{Batch: 1, Count: 1}}
	views(t, e, api.View{Latest: 2, Complete: 1, Charge: 6, Live: 2, Steps: 13, Pins: pins})
	outcome(t, e, 2, 0, api.Outcome{Commit: true, Read: []api.Cell{value(10), value(5)}})
	views(t, e, api.View{Latest: 2, Complete: 2, Charge: 6, Live: 6, Steps: 52, Pins: pins})
	number(t, "Collect", e.Collect(), 2)
	views(t, e, api.View{Latest: 2, Complete: 2, Floor: 2, Charge: 4, Live: 6, Steps: 52, Pins: pins})
	posts(t, e, 3, put(1, 1))
	last(t, e, row(1), value(1)) // the sweeper's three steps come first
	views(t, e, api.View{Latest: 3, Complete: 3, Floor: 2, Charge: 5, Live: 5, Steps: 52 + 3 + 2 + 5, Pins: pins})
	e.Pin(3)
	posts(t, e, 4)
	e.Pin(4)
	pins = []api.Pin{{Batch: 1, Count: 1}, {Batch: 3, Count: 1}, {Batch: 4, Count: 1}}
	scans(t, e, 4, row(1), row(1), api.Row{Key: row(1), Value: 1})
	views(t, e, api.View{Latest: 4, Complete: 4, Floor: 2, Charge: 5, Live: 5, Steps: 63, Pins: pins})
	s := e.Snapshot()
	views(t, e, api.View{Latest: 4, Complete: 4, Floor: 4, Charge: 4, Live: 4, Steps: 63 + 2, Pins: pins})
	views(t, restored(t, one(), 8, s), api.View{Latest: 4, Complete: 4, Floor: 4, Charge: 4, Live: 4, Pins: pins})
}

// versions looks at a key's versions.
func versions(t *testing.T, e *engine.Engine, k api.Key, want ...api.Version) {
	t.Helper()
	if got := e.Versions(k); !slices.Equal(got, want) {
		t.Errorf("Versions(%v): %v, not %v", k, got, want)
	}
}

// 15.8: the versions of a key.
func TestVersions(t *testing.T) {
	e := first(t, api.Layout{Workers: 1, Hands: 1, Parts: 3, Ahead: 2}, 8)
	versions(t, e, row(1))
	e.Step(0)
	versions(t, e, row(1), api.Version{Batch: 1})
	for e.Ready()[0] == 0 {
		e.Step(0)
	}
	versions(t, e, row(1), api.Version{Batch: 2, Index: 1}, api.Version{Batch: 2}, api.Version{Batch: 1})
	e.Pin(1)
	e.Read(1, row(1))
	ten := api.Version{Batch: 1, Filled: true, Cell: value(10)}
	versions(t, e, row(1), api.Version{Batch: 2, Index: 1}, api.Version{Batch: 2}, ten)
	e.Drain()
	six := api.Version{Batch: 2, Index: 1, Filled: true, Cell: value(6)}
	versions(t, e, row(1), six, api.Version{Batch: 2, Filled: true, Cell: value(6)}, ten)
	e.Collect()
	e.Drain()
	versions(t, e, row(1), six, ten)
	for _, k := range append(noKeys(), row(3)) {
		versions(t, e, k)
	}
}

// 15.8: no hand, no stack.
func TestStack(t *testing.T) {
	e := first(t, api.Layout{Workers: 1, Hands: 2, Parts: 1, Ahead: 1}, 8)
	for range 4 {
		e.Step(0)
	}
	for h, want := range map[int][]api.Place{0: {place(1, 0)}, 1: nil, 2: nil, -1: nil, math.MinInt: nil, math.MaxInt: nil} {
		if s := e.Stack(h); !slices.Equal(s, want) {
			t.Errorf("Stack(%d): %v, not %v", h, s, want)
		}
	}
}

// noNote looks for an error of Note.
func noNote(t *testing.T, e *engine.Engine, p api.Place, want api.Errno) {
	t.Helper()
	if got, f := e.Note(p); f != want || fmt.Sprint(got) != fmt.Sprint(api.Note{}) {
		t.Errorf("Note(%v): %v, %d, not %d", p, got, f, want)
	}
}

// notes looks at what a Note tells.
func notes(t *testing.T, e *engine.Engine, p api.Place, want api.Note) {
	t.Helper()
	if got, f := e.Note(p); f != api.OK || fmt.Sprint(got) != fmt.Sprint(want) {
		t.Errorf("Note(%v): %v, %d, not %v", p, got, f, want)
	}
}

// 15.8: the note of a transaction whose batch is laid and not complete; the state of others is not told.
func TestNote(t *testing.T) {
	e := first(t, api.Layout{Workers: 1, Hands: 1, Parts: 1, Ahead: 2}, 8)
	for _, n := range []int{math.MinInt, -1, 0, 1, 2, 3, math.MaxInt} {
		for _, i := range []int{math.MinInt, -1, 0, 1, 2, math.MaxInt} {
			noNote(t, e, place(n, i), api.ErrBatch)
		}
	}
	for range 2 {
		e.Step(0)
	}
	noNote(t, e, place(1, 0), api.ErrBatch)
	e.Step(0)
	notes(t, e, place(1, 0), api.Note{State: api.TxPosted, Tx: put(10, 1), Before: []int{0}, Own: []int{1}})
	notes(t, e, place(1, 1), api.Note{State: api.TxPosted, Tx: put(5, 2), Before: []int{0}, Own: []int{2}})
	for _, i := range []int{math.MinInt, -1, 2, 64, math.MaxInt} {
		noNote(t, e, place(1, i), api.ErrIndex)
	}
	for range 8 {
		e.Step(0)
	}
	noNote(t, e, place(2, 0), api.ErrBatch)
	e.Step(0)
	notes(t, e, place(2, 1), api.Note{State: api.TxPosted, Tx: move(20, 1, 2), Reads: []int{3, 4}, Before: []int{3, 4}, Own: []int{5, 6}})
	e.Step(0)
	notes(t, e, place(1, 0), api.Note{State: api.TxClaimed, Tx: put(10, 1), Before: []int{0}, Own: []int{1}})
	for range 4 {
		e.Step(0)
	}
	notes(t, e, place(1, 0), api.Note{State: api.TxDone, Tx: put(10, 1), Before: []int{0}, Own: []int{1}})
	for range 5 {
		e.Step(0)
	}
	noNote(t, e, place(1, 0), api.ErrBatch) // it is complete
	noNote(t, e, place(1, 7), api.ErrBatch)
	notes(t, e, place(2, 0), api.Note{State: api.TxPosted, Tx: move(4, 1, 2), Reads: []int{1, 2}, Before: []int{1, 2}, Own: []int{3, 4}})
	e.Drain()
	noNote(t, e, place(2, 0), api.ErrBatch)
	r := restored(t, one(), 8, e.Snapshot())
	noNote(t, r, place(2, 1), api.ErrBatch)
}

// 15.8: none of the four changes anything, whatever they are asked.
func TestTellingChangesNothing(t *testing.T) {
	e := log(t, layouts()[1])
	for e.Step(3) >= 0 {
		unchanged(t, e, "telling", func() {
			for _, n := range []int{math.MinInt, -1, 0, 1, 3, 7, 9, math.MaxInt} {
				e.Stack(n)
				e.Note(place(n, n))
				e.Versions(api.Key{Table: n, Row: int64(n)})
			}
		})
	}
}
