package scout_test

import (
	"math"
	"testing"

	"prelude/api"
	"prelude/engine"
	"prelude/scout"
)

// done is the fate of a wish that committed without outputs, and without reads of its own.
func done(tries, n, i int) api.Fate {
	return api.Fate{State: api.FateDone, Tries: tries, At: api.Place{Batch: n, Index: i}, Outcome: api.Outcome{Commit: true}}
}

// refused is the fate of a wish that was refused.
func refused(tries int, f api.Errno) api.Fate {
	return api.Fate{State: api.FateRefused, Tries: tries, Err: f}
}

// left is the fate of a wish that is still open.
func left(tries int) api.Fate { return api.Fate{State: api.FateLeft, Tries: tries} }

// putting is a wish for the chapter's put.
func putting(v int64, p api.Path) api.Wish {
	return api.Wish{Args: []int64{v}, Writes: paths(p)}
}

// last asks what stands at a key behind all.
func last(t *testing.T, e *engine.Engine, k api.Key, want int64) {
	t.Helper()
	if c, f := e.Last(k); f != api.OK || c != (api.Cell{Is: true, Value: want}) {
		t.Errorf("%v: %v, %d, want %d", k, c, f, want)
	}
}

// 22.4: examples 3 and 5.
func TestRun(t *testing.T) {
	wishes := []api.Wish{putting(4, straight(1, 7)), putting(50, path(1, 7, 2))}
	e := example(t)
	e.Unpin(1)
	same(t, "fates", scout.Run(e, 1, wishes, 2), []api.Fate{done(1, 2, 0), done(2, 3, 0)})
	last(t, e, key(1, 7), 4)
	last(t, e, key(2, 4), 50)
	if c, _ := e.Last(key(2, 3)); c.Is {
		t.Errorf("%v", c)
	}
	if o, f := e.Outcome(2, 1); f != api.OK || o.Commit || o.Code != api.FaultAbort || o.User != api.Foretold {
		t.Errorf("%v, %d", o, f)
	}
	e = example(t)
	same(t, "fates", scout.Run(e, 1, wishes, 1), []api.Fate{done(1, 2, 0), left(1)})
	e = example(t)
	same(t, "fates", scout.Run(e, 1, []api.Wish{{Proc: 5}}, 9), []api.Fate{refused(1, api.ErrProc)})
	if v := e.View(); v.Latest != 1 {
		t.Errorf("%v", v)
	}
}

// 22.4: no try, no wish, and as many tries as there can be.
func TestRunTries(t *testing.T) {
	for _, tries := range []int{math.MinInt, -1, 0} {
		e := example(t)
		was := e.View()
		same(t, "fates", scout.Run(e, 1, []api.Wish{putting(4, straight(1, 7)), {Proc: 9}}, tries), []api.Fate{left(0), left(0)})
		same(t, "fates", scout.Run(e, 1, nil, tries), []api.Fate{})
		same(t, "fates", scout.Run(e, 1, nil, math.MaxInt), []api.Fate{})
		same(t, "view", e.View(), was)
	}
	// One that stays open for ever.
	wish := []api.Wish{{Proc: sly, Args: []int64{api.Foretold}}}
	for tries, want := range map[int]int{1: 1, 7: 7, 999: 999, 1000: 1000, 1001: 1000, math.MaxInt: 1000} {
		e := database(t, oneOfAll(), base(), 60)
		same(t, "fates", scout.Run(e, bases(), wish, tries), []api.Fate{left(want)})
		if v := e.View(); v.Latest != want || len(v.Pins) != 0 {
			t.Errorf("%d tries: %v", tries, v)
		}
	}
	// A try is only made as long as a wish is open.
	e := database(t, oneOfAll(), base(), 60)
	same(t, "fates", scout.Run(e, bases(), []api.Wish{putting(1, straight(1, 1))}, 1000), []api.Fate{done(1, 1, 0)})
	if v := e.View(); v.Latest != 1 {
		t.Errorf("%v", v)
	}
}

// 22.4: just what a guard says leaves a wish open: that number, by an abort.
func TestRunAborts(t *testing.T) {
	for _, n := range []int64{0, 1, -1, api.Foretold - 1, api.Foretold + 1, -api.Foretold, math.MaxInt64, math.MinInt64} {
		e := database(t, oneOfAll(), base(), 60)
		want := api.Fate{State: api.FateDone, Tries: 1, At: api.Place{Batch: 1}, Outcome: api.Outcome{Code: api.FaultAbort, User: n}}
		same(t, "fates", scout.Run(e, bases(), []api.Wish{{Proc: sly, Args: []int64{n}}}, 3), []api.Fate{want})
	}
	lib := []api.Proc{{Name: "out", Program: api.Program{Args: 1, Code: []api.Instr{{Op: api.IArg}, {Op: api.IOut}}}}, {Name: "div", Program: api.Program{Code: []api.Instr{{Op: api.IPush}, {Op: api.IDup}, {Op: api.IDiv}, {Op: api.IOut}}}}}
	e := database(t, oneOfAll(), lib, 60)
	same(t, "fates", scout.Run(e, 2, []api.Wish{{Args: []int64{api.Foretold}}, {Proc: 1}}, 3), []api.Fate{
		{State: api.FateDone, Tries: 1, At: api.Place{Batch: 1}, Outcome: api.Outcome{Commit: true, Out: []int64{api.Foretold}}},
		{State: api.FateDone, Tries: 1, At: api.Place{Batch: 1, Index: 1}, Outcome: api.Outcome{Code: api.FaultDivide}},
	})
}

// 22.4: an outcome is told without what the guards have read, also where the procedure aborts.
func TestRunOutcome(t *testing.T) {
	e := database(t, oneOfAll(), guarded(t, 3), 60)
	stands(t, e, [3]int64{1, 7, 3}, [3]int64{1, 8, 4}, [3]int64{2, 3, 30}, [3]int64{2, 4, 40})
	from, to := path(1, 7, 2), path(1, 8, 2)
	wishes := []api.Wish{
		{Proc: move, Args: []int64{10}, Reads: paths(from, to), Writes: paths(from, to)},
		{Proc: move, Args: []int64{21}, Reads: paths(from, to), Writes: paths(from, to)},
		{Proc: tell, Reads: paths(to, straight(9, 9))},
		{Proc: tell, Reads: paths(straight(2, 3), straight(9, 9))},
		{Proc: nothing},
	}
	// The writes of move are declared the other way round: so 10 goes to 2:3, and is taken from 2:4.
	cell := func(v int64) api.Cell { return api.Cell{Is: true, Value: v} }
	at := func(i int) api.Place { return api.Place{Batch: 2, Index: i} }
	same(t, "fates", scout.Run(e, bases(), wishes, 5), []api.Fate{
		{State: api.FateDone, Tries: 1, At: at(0), Outcome: api.Outcome{Commit: true, Out: []int64{30}, Read: []api.Cell{cell(30), cell(40)}}},
		{State: api.FateDone, Tries: 1, At: at(1), Outcome: api.Outcome{Commit: true, Out: []int64{50}, Read: []api.Cell{cell(50), cell(20)}}},
		{State: api.FateDone, Tries: 1, At: at(2), Outcome: api.Outcome{Commit: true, Out: []int64{1, 29, 0, 0}, Read: []api.Cell{cell(29), {}}}},
		{State: api.FateDone, Tries: 1, At: at(3), Outcome: api.Outcome{Commit: true, Out: []int64{1, 41, 0, 0}, Read: []api.Cell{cell(41), {}}}},
		{State: api.FateDone, Tries: 1, At: at(4), Outcome: api.Outcome{Commit: true}},
	})
	same(t, "fates", scout.Run(e, bases(), []api.Wish{{Proc: move, Args: []int64{99}, Reads: paths(from, to), Writes: paths(from, to)}}, 5), []api.Fate{
		{State: api.FateDone, Tries: 1, At: api.Place{Batch: 3}, Outcome: api.Outcome{Code: api.FaultAbort, User: 1, Read: []api.Cell{cell(41), cell(29)}}},
	})
}

// 22.4: no more than a batch in a try; the others wait for their turn, in order.
func TestRunFirst(t *testing.T) {
	var wishes []api.Wish
	var want []api.Fate
	for i := range 150 {
		wishes = append(wishes, putting(int64(i), straight(5, int64(i))))
		want = append(want, done(1, 1+i/api.MaxTxs, i%api.MaxTxs))
	}
	for tries := 1; tries <= 4; tries++ {
		e := database(t, oneOfAll(), base(), 600)
		fates := append([]api.Fate{}, want...)
		for i := min(64*tries, 150); i < 150; i++ {
			fates[i] = left(0)
		}
		same(t, "fates", scout.Run(e, bases(), wishes, tries), fates)
		if v := e.View(); v.Latest != min(tries, 3) {
			t.Errorf("%d tries: %v", tries, v)
		}
	}
	// Those that are refused make no room for others in their try, and a try may have no batch.
	for i := range 70 {
		wishes[i] = putting(1, path(1, 7, 2))
		want[i] = refused(1, api.ErrLost)
	}
	for i := 70; i < 150; i++ {
		want[i] = done(1, 1+(i-64)/64, i-64-i/128*64)
	}
	for i := 70; i < 128; i++ {
		want[i] = done(1, 1, i-70)
	}
	e := database(t, oneOfAll(), base(), 600)
	same(t, "fates", scout.Run(e, bases(), wishes, 9), want)
	if v := e.View(); v.Latest != 2 {
		t.Errorf("%v", v)
	}
}

// 22.4, 22.8: those that stay open go first in the next try; and in each try the first one is done.
func TestRunInTurn(t *testing.T) {
	var wishes []api.Wish
	for range 130 {
		wishes = append(wishes, api.Wish{Proc: add, Args: []int64{1}, Reads: paths(path(1, 7, 2)), Writes: paths(straight(1, 7))})
	}
	for _, l := range layouts() {
		e := database(t, l, guarded(t, 1), 20000)
		stands(t, e, [3]int64{1, 7, 0}, [3]int64{2, 0, 3}, [3]int64{2, 4, 6}, [3]int64{2, 7, -1})
		follows := map[int64]int64{0: 3, 4: 6, 7: -1} // and nothing elsewhere
		at := int64(0)
		for i, f := range scout.Run(e, bases(), wishes, len(wishes)) {
			value, is := follows[at]
			same(t, "fate", f, api.Fate{State: api.FateDone, Tries: min(i+1, 64), At: api.Place{Batch: 2 + i}, Outcome: api.Outcome{Commit: true, Read: []api.Cell{{Is: is, Value: value}}}})
			at = value + 1
		}
	}
}

// 22.4: what is wrong with one transaction is that wish's alone, and a batch that is empty then is none.
func TestRunWithout(t *testing.T) {
	good := func(v int64) api.Wish { return putting(v, straight(5, v)) }
	for _, c := range []struct {
		wish api.Wish
		want api.Errno
	}{
		{api.Wish{Proc: -1}, api.ErrProc}, {api.Wish{Proc: 99}, api.ErrProc}, {api.Wish{Proc: math.MaxInt}, api.ErrProc},
		{api.Wish{Writes: paths(straight(5, 1))}, api.ErrArgs}, {api.Wish{Args: make([]int64, 17)}, api.ErrArgs}, {api.Wish{Args: make([]int64, 100000)}, api.ErrArgs},
		{api.Wish{Args: []int64{1}, Reads: paths(straight(5, 1))}, api.ErrReads},
		{api.Wish{Args: []int64{1}}, api.ErrWrites}, {api.Wish{Proc: nothing, Writes: paths(straight(5, 1))}, api.ErrWrites},
	} {
		for at := range 3 {
			wishes := []api.Wish{good(1), good(2), good(3)}
			wishes[at] = c.wish
			var want []api.Fate
			for i := range 3 {
				index := i
				if i > at {
					index--
				}
				want = append(want, done(1, 1, index))
			}
			want[at] = refused(1, c.want)
			e := database(t, oneOfAll(), base(), 60)
			same(t, "fates", scout.Run(e, bases(), wishes, 3), want)
			if v := e.View(); v.Latest != 1 || v.Charge != 2 {
				t.Errorf("%v", v)
			}
		}
		e := database(t, oneOfAll(), base(), 60)
		same(t, "fates", scout.Run(e, bases(), []api.Wish{c.wish, c.wish}, 3), []api.Fate{refused(1, c.want), refused(1, c.want)})
		if v := e.View(); v.Latest != 0 || v.Steps != 0 {
			t.Errorf("%v", v)
		}
	}
	// Many in one batch, by one after the other.
	var wishes []api.Wish
	var want []api.Fate
	for i := range 64 {
		wishes, want = append(wishes, good(int64(i))), append(want, done(1, 1, i/4))
		if i%4 != 0 {
			wishes[i].Proc, want[i] = 70+i, refused(1, api.ErrProc)
		}
	}
	e := database(t, oneOfAll(), base(), 60)
	same(t, "fates", scout.Run(e, bases(), wishes, 3), want)
	// A library without guards that are asked for.
	e = example(t)
	wish := api.Wish{Proc: 0, Args: []int64{1}, Writes: paths(path(1, 7, 2))}
	same(t, "fates", scout.Run(e, 3, []api.Wish{wish, good(1)}, 3), []api.Fate{refused(1, api.ErrProc), done(1, 2, 0)})
	same(t, "fates", scout.Run(e, 0, []api.Wish{wish, good(1)}, 3), []api.Fate{refused(1, api.ErrArgs), done(1, 3, 0)})
}

// 22.4: a batch that has no room, or no number, is refused as a whole, behind those that are wrong by themselves.
func TestRunNoRoom(t *testing.T) {
	wishes := []api.Wish{putting(1, straight(5, 1)), {Proc: 99}, putting(2, straight(5, 2)), putting(3, path(1, 8, 2)), putting(3, straight(5, 3))}
	e := database(t, oneOfAll(), base(), 3)
	stands(t, e, [3]int64{1, 7, 1})
	want := []api.Fate{refused(1, api.ErrRoom), refused(1, api.ErrProc), refused(1, api.ErrRoom), refused(1, api.ErrLost), refused(1, api.ErrRoom)}
	same(t, "fates", scout.Run(e, bases(), wishes, 9), want)
	if v := e.View(); v.Latest != 1 || len(v.Pins) != 0 {
		t.Errorf("%v", v)
	}
	// The second try has room, where the first one had none; or the first one has, and takes it.
	var list []api.Wish
	for i := range 66 {
		list = append(list, putting(1, straight(5, int64(i))))
	}
	e = database(t, oneOfAll(), base(), 60)
	fates := scout.Run(e, bases(), list, 9)
	for i, f := range fates {
		if i < 64 {
			same(t, "fate", f, refused(1, api.ErrRoom))
		} else {
			same(t, "fate", f, done(1, 1, i-64))
		}
	}
	e = database(t, oneOfAll(), base(), 65)
	fates = scout.Run(e, bases(), list, 9)
	for i, f := range fates {
		if i < 64 {
			same(t, "fate", f, done(1, 1, i))
		} else {
			same(t, "fate", f, refused(1, api.ErrRoom))
		}
	}
	e, f := engine.Restore(oneOfAll(), base(), 60, api.Snapshot{Latest: api.MaxNumber})
	if f != api.OK {
		t.Fatal(f)
	}
	for i := range want {
		if want[i].Err == api.ErrRoom {
			want[i].Err = api.ErrLast
		}
	}
	same(t, "fates", scout.Run(e, bases(), wishes, 9), want)
}

// 22.4: where the latest batch can't be pinned, all are refused, and none was foretold then.
func TestRunUnpinned(t *testing.T) {
	wishes := []api.Wish{putting(1, straight(5, 1)), {Proc: 99}, putting(3, path(1, 8, 2))}
	none := []api.Fate{refused(0, api.ErrPins), refused(0, api.ErrPins), refused(0, api.ErrPins)}
	e := database(t, oneOfAll(), base(), 60)
	for n := range api.MaxPins {
		if e.Pin(n) != api.OK {
			t.Fatal(n)
		}
		stands(t, e)
	}
	was := e.View()
	same(t, "fates", scout.Run(e, bases(), wishes, 9), none)
	same(t, "view", e.View(), was)
	// The first try has a pin, the second one has none any more: nor are there any for those that were not looked at.
	e = database(t, oneOfAll(), guarded(t, 1), 200)
	for n := range api.MaxPins {
		if n > 0 {
			stands(t, e, [3]int64{1, 7, 1})
		}
		e.Pin(n)
	}
	list := []api.Wish{putting(2, straight(1, 7)), putting(9, path(1, 7, 2))}
	for range 70 {
		list = append(list, putting(2, straight(6, 1)))
	}
	fates := scout.Run(e, bases(), list, 9)
	same(t, "first", fates[0], done(1, api.MaxPins, 0))
	same(t, "second", fates[1], refused(1, api.ErrPins))
	same(t, "third", fates[2], done(1, api.MaxPins, 2))
	for _, f := range fates[64:] {
		same(t, "last", f, refused(0, api.ErrPins))
	}
	// A batch that was pinned too often.
	e, f := engine.Restore(oneOfAll(), base(), 60, api.Snapshot{Latest: 5, Pins: []api.Pin{{Batch: 5, Count: api.MaxNumber}}})
	if f != api.OK {
		t.Fatal(f)
	}
	same(t, "fates", scout.Run(e, bases(), wishes, 9), none)
	e.Unpin(5)
	same(t, "fates", scout.Run(e, bases(), wishes, 9), []api.Fate{done(1, 6, 0), refused(1, api.ErrProc), refused(1, api.ErrLost)})
	same(t, "pins", e.View().Pins, []api.Pin{{Batch: 5, Count: api.MaxNumber - 1}})
}

// 22.4: one may be foretold wrongly first, and then it can't be foretold any more.
func TestRunLater(t *testing.T) {
	lib := guarded(t, 2)
	name := path(1, 7, 2)
	for _, c := range []struct {
		first  api.Wish
		second api.Wish
		want   api.Fate
	}{
		{api.Wish{Proc: del, Writes: paths(straight(1, 7))}, putting(9, name), refused(2, api.ErrLost)},
		{putting(8, straight(1, 7)), putting(9, path(1, 7, 1, 1)), refused(2, api.ErrLost)},
		{putting(1, straight(1, 7)), api.Wish{Proc: add, Args: []int64{1}, Reads: paths(hops(key(1, 7), [2]int64{1, 5})), Writes: paths(straight(5, 5))}, refused(2, api.ErrTangled)},
		{putting(5, straight(1, 9)), putting(9, path(1, 9, 1, 1, 2)), refused(2, api.ErrProc)},
		{putting(3, straight(1, 7)), putting(9, name), done(1, 3, 1)},
		{putting(3, straight(1, 8)), putting(9, name), done(1, 3, 1)},
		{putting(4, straight(1, 7)), putting(9, name), done(2, 4, 0)},
	} {
		e := database(t, oneOfAll(), lib, 60)
		stands(t, e, [3]int64{1, 7, 3}, [3]int64{1, 3, 5}, [3]int64{1, 5, 6}, [3]int64{1, 6, 8}, [3]int64{1, 9, 9})
		stands(t, e)
		fates := scout.Run(e, bases(), []api.Wish{c.first, c.second}, 9)
		same(t, "fates", fates, []api.Fate{done(1, 3, 0), c.want})
	}
}
