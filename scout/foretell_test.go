package scout_test

import (
	"math"
	"reflect"
	"testing"

	"prelude/api"
	"prelude/engine"
	"prelude/scout"
)

// foretold asks for a wish's transaction.
func foretold(t *testing.T, e *engine.Engine, n, procs int, w api.Wish, want api.Tx) {
	t.Helper()
	x, f := scout.Foretell(e, n, procs, w)
	if f != api.OK {
		t.Fatalf("%v behind %d: %d", w, n, f)
	}
	same(t, "foretold", x, want)
}

// unforetold asks that a wish can't be foretold.
func unforetold(t *testing.T, e *engine.Engine, n int, w api.Wish, want api.Errno) {
	t.Helper()
	if x, f := scout.Foretell(e, n, 1, w); f != want || !reflect.DeepEqual(x, api.Tx{}) {
		t.Errorf("%v behind %d: %v, %d, want %d", w, n, x, f, want)
	}
}

// example is the chapter's database: put alone and guarded, and 3 at 1:7 behind batch 1, which is pinned.
func example(t *testing.T) *engine.Engine {
	t.Helper()
	lib, f := scout.Library([]api.Proc{putAlone()}, 2)
	if f != api.OK {
		t.Fatal(f)
	}
	e := database(t, oneOfAll(), lib, 60)
	stands(t, e, [3]int64{1, 7, 3})
	e.Pin(1)
	return e
}

// 22.3: examples 2 and 4.
func TestForetell(t *testing.T) {
	e := example(t)
	name := path(1, 7, 2)
	foretold(t, e, 1, 1, api.Wish{Args: []int64{50}, Writes: paths(name)}, api.Tx{Proc: 1, Args: []int64{3, 50}, Reads: []api.Key{key(1, 7)}, Writes: []api.Key{key(2, 3)}})
	foretold(t, e, 1, 1, api.Wish{Args: []int64{50}, Writes: paths(straight(2, 9))}, api.Tx{Args: []int64{50}, Writes: []api.Key{key(2, 9)}})
	unforetold(t, e, 1, api.Wish{Args: []int64{50}, Writes: paths(path(1, 8, 2))}, api.ErrLost)
	unforetold(t, e, 1, api.Wish{Writes: paths(path(1, 7, 70000))}, api.ErrKey)
	foretold(t, e, 1, 1, api.Wish{Reads: paths(straight(2, 1), name)}, api.Tx{Proc: 1, Args: []int64{3}, Reads: []api.Key{key(1, 7), key(2, 1), key(2, 3)}})
	unforetold(t, e, 1, api.Wish{Reads: paths(straight(1, 1), name)}, api.ErrTangled)
	foretold(t, e, 1, 1, api.Wish{Proc: 5}, api.Tx{Proc: 5})
	foretold(t, e, 1, 1, api.Wish{}, api.Tx{})
}

// 22.3: a batch that is not pinned, ahead of all else; and by that nothing is done.
func TestForetellUnpinned(t *testing.T) {
	e := example(t)
	e.Unpin(1)
	was := e.View()
	for _, n := range []int{math.MinInt, -1, 0, 1, 2, math.MaxInt} {
		unforetold(t, e, n, api.Wish{}, api.ErrPin)
		unforetold(t, e, n, api.Wish{Reads: paths(straight(-1, 0))}, api.ErrPin)
		unforetold(t, e, n, api.Wish{Reads: paths(path(1, 8, 2))}, api.ErrPin)
		unforetold(t, e, n, api.Wish{Reads: paths(straight(1, 8), straight(1, 8))}, api.ErrPin)
	}
	same(t, "view", e.View(), was)
	// Pinned once of twice is pinned.
	e.Pin(1)
	e.Pin(1)
	e.Unpin(1)
	foretold(t, e, 1, 1, api.Wish{}, api.Tx{})
	e.Unpin(1)
	unforetold(t, e, 1, api.Wish{}, api.ErrPin)
}

// 22.3: a moment is that of the batch, whatever was let in and collected since.
func TestForetellBehind(t *testing.T) {
	e := example(t)
	e.Pin(0)
	stands(t, e, [3]int64{1, 7, 4}, [3]int64{1, 8, 5})
	e.Pin(2)
	stands(t, e, [3]int64{1, 7, 6}, [3]int64{1, 8, 7})
	w := api.Wish{Writes: paths(path(1, 7, 2))}
	for range 2 {
		unforetold(t, e, 0, w, api.ErrLost)
		foretold(t, e, 1, 1, w, api.Tx{Proc: 1, Args: []int64{3}, Reads: []api.Key{key(1, 7)}, Writes: []api.Key{key(2, 3)}})
		foretold(t, e, 2, 1, w, api.Tx{Proc: 1, Args: []int64{4}, Reads: []api.Key{key(1, 7)}, Writes: []api.Key{key(2, 4)}})
		unforetold(t, e, 3, w, api.ErrPin)
		unforetold(t, e, 1, api.Wish{Reads: paths(path(1, 8, 2))}, api.ErrLost)
		e.Collect()
		e.Drain()
	}
}

// hops is a path with a table and an Off for each hop.
func hops(k api.Key, list ...[2]int64) api.Path {
	p := api.Path{Key: k}
	for _, h := range list {
		p.Hops = append(p.Hops, api.Hop{Table: int(h[0]), Off: h[1]})
	}
	return p
}

// 22.3: paths of many hops, their Offs, and rows that wrap round.
func TestForetellHops(t *testing.T) {
	e := database(t, oneOfAll(), base(), 60)
	stands(t, e, [3]int64{1, 7, 3}, [3]int64{2, 3, -5}, [3]int64{3, -5, math.MaxInt64}, [3]int64{4, math.MinInt64, 9}, [3]int64{6, 0, 1}, [3]int64{6, 1, 0}, [3]int64{api.MaxTable, 8, math.MinInt64})
	e.Pin(1)
	passed := []api.Key{key(2, 3), key(3, -5), key(4, math.MinInt64)}
	there := hops(key(2, 3), [2]int64{3, 0}, [2]int64{4, 1}, [2]int64{api.MaxTable, -2})
	foretold(t, e, 1, 10, api.Wish{Proc: 2, Args: []int64{77}, Writes: paths(there)},
		api.Tx{Proc: 32, Args: []int64{-5, math.MaxInt64, 9, 77}, Reads: passed, Writes: []api.Key{key(api.MaxTable, 7)}})
	foretold(t, e, 1, 10, api.Wish{Reads: paths(there)},
		api.Tx{Proc: 30, Args: []int64{-5, math.MaxInt64, 9}, Reads: append(passed, key(api.MaxTable, 7))})
	// An Off alone, up to the ends of the rows and past them.
	for off, row := range map[int64]int64{0: 3, 1: 4, -4: -1, math.MaxInt64 - 3: math.MaxInt64, math.MaxInt64: math.MinInt64 + 2, math.MinInt64: math.MinInt64 + 3} {
		foretold(t, e, 1, 0, api.Wish{Writes: paths(hops(key(1, 7), [2]int64{9, off}))}, api.Tx{Args: []int64{3}, Reads: []api.Key{key(1, 7)}, Writes: []api.Key{key(9, row)}})
	}
	foretold(t, e, 1, 0, api.Wish{Writes: paths(hops(key(api.MaxTable, 8), [2]int64{0, -1}))}, api.Tx{Args: []int64{math.MinInt64}, Reads: []api.Key{key(api.MaxTable, 8)}, Writes: []api.Key{key(0, math.MaxInt64)}})
	// Round and round: the guards are a set.
	for _, times := range []int{1, 2, 3, 100001} {
		p := straight(6, 0)
		for range times {
			p.Hops = append(p.Hops, api.Hop{Table: 6})
		}
		end := key(6, int64(times%2))
		want := api.Tx{Args: []int64{1, 0}, Reads: []api.Key{key(6, 0), key(6, 1)}, Writes: []api.Key{end}}
		if times == 1 {
			want.Args, want.Reads = want.Args[:1], want.Reads[:1]
		}
		foretold(t, e, 1, 0, api.Wish{Writes: paths(p)}, want)
	}
}

// 22.3: the first path that can't be gone, and where; those of Reads ahead of those of Writes.
func TestForetellFaults(t *testing.T) {
	e := example(t)
	fine, lost, none := path(1, 7, 2), path(1, 8, 2), straight(-1, 0)
	for _, c := range []struct {
		path api.Path
		want api.Errno
	}{
		{straight(-1, 0), api.ErrKey}, {straight(65536, 0), api.ErrKey}, {straight(math.MinInt, 0), api.ErrKey}, {straight(math.MaxInt, 7), api.ErrKey},
		{straight(0, math.MinInt64), api.OK}, {straight(api.MaxTable, math.MaxInt64), api.OK},
		{path(-1, 7, 2), api.ErrKey}, {path(65536, 7, 2), api.ErrKey}, {path(65537, 7, 2), api.ErrKey},
		{path(1, 7, -1), api.ErrKey}, {path(1, 7, 65536), api.ErrKey}, {path(1, 7, 65536, 2), api.ErrKey}, {path(1, 7, math.MinInt), api.ErrKey},
		{path(1, 7, 2, 70000), api.ErrLost}, {path(1, 7, 2, 3), api.ErrLost}, {path(1, 8, 70000), api.ErrLost}, {path(1, 8), api.OK}, {path(1, 7, api.MaxTable), api.OK},
	} {
		for _, w := range []api.Wish{{Reads: paths(c.path)}, {Writes: paths(c.path)}, {Reads: paths(fine), Writes: paths(c.path, lost, none)}, {Reads: paths(c.path, lost, none), Writes: paths(none)}} {
			switch {
			case c.want != api.OK:
				unforetold(t, e, 1, w, c.want)
			case len(w.Reads)+len(w.Writes) > 1:
				unforetold(t, e, 1, w, api.ErrLost)
			default:
				if x, f := scout.Foretell(e, 1, 1, w); f != api.OK {
					t.Errorf("%v: %v, %d", w, x, f)
				}
			}
		}
	}
	unforetold(t, e, 1, api.Wish{Reads: paths(fine, none, lost)}, api.ErrKey)
	unforetold(t, e, 1, api.Wish{Reads: paths(lost), Writes: paths(none)}, api.ErrLost)
	unforetold(t, e, 1, api.Wish{Reads: paths(none), Writes: paths(lost)}, api.ErrKey)
	unforetold(t, e, 1, api.Wish{Writes: paths(lost, none)}, api.ErrLost)
	unforetold(t, e, 1, api.Wish{Writes: paths(fine, none, lost)}, api.ErrKey)
	// All paths are gone ahead of asking whether their ends are sets.
	unforetold(t, e, 1, api.Wish{Reads: paths(straight(2, 1), straight(2, 1)), Writes: paths(lost)}, api.ErrLost)
	unforetold(t, e, 1, api.Wish{Writes: paths(straight(2, 1), straight(2, 1), none)}, api.ErrKey)
	// What was taken away is lost.
	lib := database(t, oneOfAll(), base(), 60)
	stands(t, lib, [3]int64{1, 7, 3})
	if _, err := lib.Post([]api.Tx{{Proc: del, Writes: []api.Key{key(1, 7)}}}); err != nil {
		t.Fatal(err)
	}
	lib.Pin(1)
	lib.Pin(2)
	unforetold(t, lib, 2, api.Wish{Reads: paths(fine)}, api.ErrLost)
	foretold(t, lib, 1, 0, api.Wish{Writes: paths(fine)}, api.Tx{Args: []int64{3}, Reads: []api.Key{key(1, 7)}, Writes: []api.Key{key(2, 3)}})
}

// 22.3: guards and the ends of Reads must be a set as they are listed, and so must the ends of Writes.
func TestForetellTangled(t *testing.T) {
	e := database(t, oneOfAll(), base(), 60)
	stands(t, e, [3]int64{1, 7, 3}, [3]int64{1, 5, 2}, [3]int64{2, 3, 9})
	e.Pin(1)
	seven, five, far := path(1, 7, 2), path(1, 5, 2), path(1, 7, 2, 3)
	for _, w := range []api.Wish{
		{Reads: paths(seven, five)},                                                // 2:3, 2:2
		{Reads: paths(seven, straight(2, 3))},                                      // twice
		{Reads: paths(straight(1, 7), seven)},                                      // a guard, and the end of a path
		{Reads: paths(straight(1, 5), seven)},                                      // below the guard
		{Reads: paths(straight(1, 6)), Writes: paths(seven)},                       // a guard of Writes
		{Reads: paths(straight(1, 7)), Writes: paths(seven)},                       // the same key
		{Reads: paths(straight(3, 1), straight(2, 4)), Writes: paths(seven)},       // ends that fall
		{Reads: paths(seven), Writes: paths(far)},                                  // 2:3 is passed too
		{Writes: paths(seven, five)},                                               // 2:3, 2:2
		{Writes: paths(seven, seven)},                                              // twice
		{Writes: paths(straight(2, 3), seven)},                                     // twice
		{Writes: paths(straight(0, 1), straight(0, 0))},                            // they fall
		{Reads: paths(straight(0, 1), straight(0, 0))},                             // they fall
		{Reads: paths(straight(0, 1), straight(0, 1)), Writes: paths(seven)},       // both wrong
		{Reads: paths(straight(9, 1)), Writes: paths(straight(9, 2), seven)},       // 9:2, 2:3
		{Reads: paths(straight(9, 1)), Writes: paths(seven, five, straight(8, 0))}, // 2:3, 2:2
	} {
		unforetold(t, e, 1, w, api.ErrTangled)
	}
	// The guards' own order is theirs, whichever path comes first; and a write may be a guard, or below all.
	four := []api.Path{path(1, 7, 4), path(1, 5, 4)}
	unforetold(t, e, 1, api.Wish{Reads: four, Writes: paths(far)}, api.ErrTangled)
	foretold(t, e, 1, 1, api.Wish{Reads: paths(four[1], four[0]), Writes: paths(straight(0, 0), straight(1, 7), far)},
		api.Tx{Proc: 3, Args: []int64{2, 3, 9}, Reads: []api.Key{key(1, 5), key(1, 7), key(2, 3), key(4, 2), key(4, 3)}, Writes: []api.Key{key(0, 0), key(1, 7), key(3, 9)}})
	foretold(t, e, 1, 1, api.Wish{Writes: paths(five, far)},
		api.Tx{Proc: 3, Args: []int64{2, 3, 9}, Reads: []api.Key{key(1, 5), key(1, 7), key(2, 3)}, Writes: []api.Key{key(2, 2), key(3, 9)}})
	// A read may be a write.
	foretold(t, e, 1, 1, api.Wish{Reads: paths(seven), Writes: paths(seven)},
		api.Tx{Proc: 1, Args: []int64{3}, Reads: []api.Key{key(1, 7), key(2, 3)}, Writes: []api.Key{key(2, 3)}})
}

// 22.3: the procedure's number wraps round, and nobody asks whether there is one; nor how many args, reads and writes it takes.
func TestForetellProc(t *testing.T) {
	e := database(t, oneOfAll(), base(), 60)
	var list [][3]int64
	for i := range int64(20) {
		list = append(list, [3]int64{1, i, i})
	}
	stands(t, e, list...)
	e.Pin(1)
	for _, procs := range edges() {
		for _, proc := range edges() {
			for g := range 4 {
				w := api.Wish{Proc: proc}
				for i := range g {
					w.Reads = append(w.Reads, path(1, int64(i), 2))
				}
				x, f := scout.Foretell(e, 1, procs, w)
				want := proc
				for range g {
					want += procs
				}
				if f != api.OK || x.Proc != want {
					t.Errorf("%d guards, %d procedures: %v, %d, want %d", g, procs, x, f, want)
				}
			}
		}
	}
	var all, ends []api.Path
	var args, values []int64
	var reads, writes []api.Key
	for i := range int64(20) {
		all, ends = append(all, path(1, i, 2)), append(ends, straight(3, i))
		args, values = append(args, 100-i), append(values, i)
		reads, writes = append(reads, key(1, i)), append(writes, key(3, i))
	}
	for i := range int64(20) {
		reads = append(reads, key(2, i))
	}
	foretold(t, e, 1, 7, api.Wish{Proc: 1, Args: args, Reads: all, Writes: ends}, api.Tx{Proc: 141, Args: append(values, args...), Reads: reads, Writes: writes})
}

// 22.3: where nothing is looked up no step is taken, and a refusal for the first key is none of the database's business.
func TestForetellSteps(t *testing.T) {
	e := example(t)
	for _, w := range []api.Wish{{}, {Reads: paths(straight(1, 7), straight(2, 3)), Writes: paths(straight(1, 7))}, {Reads: paths(straight(-1, 0))}, {Writes: paths(path(-1, 0, 2))}, {Reads: paths(straight(1, 7), straight(1, 7))}} {
		scout.Foretell(e, 1, 1, w)
		if v := e.View(); v.Steps != 0 {
			t.Errorf("%v: %v", w, v)
		}
	}
	scout.Foretell(e, 1, 1, api.Wish{Reads: paths(path(1, 7, 2))})
	was := e.View()
	if was.Complete != 1 {
		t.Errorf("%v", was)
	}
	for range 3 {
		scout.Foretell(e, 1, 1, api.Wish{Reads: paths(path(1, 7, 2)), Writes: paths(path(1, 8, 2))})
	}
	same(t, "view", e.View(), was)
}
