package crew_test

import (
	"testing"

	"prelude/api"
	"prelude/crew"
	"prelude/lang"
)

// wrongLibs is lists of procedures that are no libraries, each with its error.
func wrongLibs() map[api.Errno][]api.Proc {
	return map[api.Errno][]api.Proc{
		api.ErrName:    {{Name: "1"}},
		api.ErrProgram: {{Name: "a", Program: api.Program{Args: -1}}},
		api.ErrOp:      {{Name: "a"}, {Name: "b", Program: api.Program{Code: []api.Instr{{Op: api.NumOps}}}}},
		api.ErrStack:   {{Name: "a", Program: api.Program{Code: []api.Instr{{Op: api.IPop}}}}},
		api.ErrProcs:   make([]api.Proc, api.MaxProcs+1),
	}
}

// 16.1.1: what is no library is refused by lang.Check's error, whatever else is wrong.
func TestNoLibrary(t *testing.T) {
	for want, lib := range wrongLibs() {
		if _, e := lang.Check(lib); e != want {
			t.Fatalf("lang.Check: %v, not %v", e, want)
		}
		for _, l := range []api.Layout{one(), {}} {
			refuses(t, l, lib, nil, want)
			refuses(t, l, lib, log{{}, {{Proc: -1}}}, want)
		}
	}
}

// 16.1.2: each number of a layout is from 1 to its limit, and the first that is not is told.
func TestLimits(t *testing.T) {
	lib := bank(t)
	unsound := log{{{Proc: -1}}}
	set := func(field int, n int) api.Layout {
		numbers := [4]int{2, 2, 2, 2}
		numbers[field] = n
		return api.Layout{Workers: numbers[0], Hands: numbers[1], Parts: numbers[2], Ahead: numbers[3]}
	}
	for field, c := range []struct {
		most int
		e    api.Errno
	}{{api.MaxWorkers, api.ErrWorkers}, {api.MaxHands, api.ErrHands}, {api.MaxParts, api.ErrParts}, {api.MaxAhead, api.ErrAhead}} {
		for _, n := range []int{-1 << 63, -1, 0, c.most + 1, 1<<63 - 1} {
			refuses(t, set(field, n), lib, example(), c.e)
			refuses(t, set(field, n), lib, unsound, c.e)
		}
		for _, n := range []int{1, c.most} {
			if got, want := example().run(t, set(field, n), lib), example().plain(t, lib); !got.same(want) {
				t.Errorf("%v: %v, not %v", set(field, n), got, want)
			}
		}
	}
}

// 16.1.2: where several numbers of a layout are wrong, it is workers, hands, partitions, batches ahead.
func TestFirstOfLayout(t *testing.T) {
	lib := bank(t)
	refuses(t, api.Layout{Workers: 65, Hands: 65, Parts: 257, Ahead: 17}, lib, nil, api.ErrWorkers)
	refuses(t, api.Layout{Workers: 64, Hands: 0, Parts: 0, Ahead: 0}, lib, nil, api.ErrHands)
	refuses(t, api.Layout{Workers: 64, Hands: 64, Parts: 0, Ahead: 0}, lib, nil, api.ErrParts)
	refuses(t, api.Layout{Workers: 64, Hands: 64, Parts: 256, Ahead: 0}, lib, nil, api.ErrAhead)
}

// 16.1.3: the first transaction of the first batch that is not sound is told, by the places of both.
func TestWhichTransaction(t *testing.T) {
	lib := bank(t)
	good := []api.Tx{put(1, 1), put(2, 2)}
	for _, c := range []struct {
		bad api.Tx
		e   api.Errno
	}{
		{api.Tx{Proc: len(lib)}, api.ErrProc},
		{api.Tx{Proc: -1}, api.ErrProc},
		{api.Tx{Proc: pPut, Writes: set(1)}, api.ErrArgs},
		{api.Tx{Proc: pPut, Args: []int64{1}, Reads: set(1), Writes: set(1)}, api.ErrReads},
		{api.Tx{Proc: pPut, Args: []int64{1}}, api.ErrWrites},
		{api.Tx{Proc: pMove, Args: []int64{1}, Reads: set(2, 1), Writes: set(1, 2)}, api.ErrSet},
		{api.Tx{Proc: pPut, Args: []int64{1}, Writes: []api.Key{{Table: -1}}}, api.ErrSet},
	} {
		for _, l := range []api.Layout{one(), all()} {
			blames(t, l, lib, log{{c.bad}}, 0, 0, c.e)
			blames(t, l, lib, log{good, {}, {put(1, 1), put(2, 2), c.bad, {Proc: -1}}, {{Proc: 99}}}, 2, 2, c.e)
		}
	}
}

// 16.1.3: a batch of more than 64 transactions is not sound; its first transaction is told.
func TestTooManyTransactions(t *testing.T) {
	lib := bank(t)
	blames(t, one(), lib, log{puts(64, 1), append(puts(64, 1), api.Tx{Proc: -1})}, 1, 0, api.ErrTxs)
	b := log{puts(64, 1)}
	b.runs(t, lib, b.plain(t, lib))
}

// 16.1.4: all writes count, of all batches together: those of one key, those that are kept and those of a transaction that fails.
func TestRoom(t *testing.T) {
	lib := bank(t)
	var b log
	for i := range 64 {
		var list []api.Tx
		for range 64 {
			list = append(list, wide(int64(i%3)))
		}
		b = append(b, list)
	}
	b = append(b, []api.Tx{tx(pShow, set(1, 2), nil), tx(pRest, nil, nil)}, nil) // they have no writes
	l := api.Layout{Workers: 2, Hands: 4, Parts: 8, Ahead: 4}
	if got, want := b.run(t, l, lib), b.plain(t, lib); !got.same(want) {
		t.Error("as many as there may be")
	}
	for _, more := range []api.Tx{put(1, 1), keep(1), {Proc: pLate, Args: []int64{1, 1}, Reads: set(1), Writes: set(1, 2)}} {
		refuses(t, l, lib, append(b, []api.Tx{more}), api.ErrRoom)
		refuses(t, l, lib, append(log{{more}}, b...), api.ErrRoom)
	}
	blames(t, l, lib, append(b, []api.Tx{put(1, 1)}, []api.Tx{{Proc: 64}}), len(b)+1, 0, api.ErrProc)
}

// 16.1: who was refused has changed nothing, for anybody.
func TestRefusedLeavesNothing(t *testing.T) {
	lib := bank(t)
	want := example().plain(t, lib)
	for range 10 {
		if _, _, err := crew.Run(all(), lib, append(example(), []api.Tx{{Proc: -1}})); err == nil {
			t.Fatal("it is run")
		}
		example().runs(t, lib, want)
	}
}
