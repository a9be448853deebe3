package engine_test

import (
	"math"
	"slices"
	"testing"

	"prelude/api"
	"prelude/engine"
)

// noNew looks for an error of New, and of Restore of a snapshot that can't be restored, which comes behind it.
func noNew(t *testing.T, l api.Layout, lib []api.Proc, capacity int, want api.Errno) {
	t.Helper()
	if e, f := engine.New(l, lib, capacity); e != nil || f != want {
		t.Errorf("New(%v, .., %d): %v, %d, not %d", l, capacity, e, f, want)
	}
	for _, s := range []api.Snapshot{{}, {Latest: -1}} {
		if e, f := engine.Restore(l, lib, capacity, s); e != nil || f != want {
			t.Errorf("Restore(%v, .., %d, %v): %v, %d, not %d", l, capacity, s, e, f, want)
		}
	}
}

// 15.1, with example 7: the errors at each limit and one past it.
func TestNewErrors(t *testing.T) {
	lib := bank()
	noNew(t, api.Layout{}, lib, 0, api.ErrCapacity)
	noNew(t, api.Layout{}, lib, 1, api.ErrWorkers)
	noNew(t, api.Layout{Workers: 1, Hands: 65, Parts: 1, Ahead: 1}, lib, 1, api.ErrHands)
	for _, c := range []struct {
		most int
		code api.Errno
		set  func(l *api.Layout, capacity *int, n int)
	}{
		{api.MaxCapacity, api.ErrCapacity, func(l *api.Layout, capacity *int, n int) { *capacity = n }},
		{api.MaxWorkers, api.ErrWorkers, func(l *api.Layout, capacity *int, n int) { l.Workers = n }},
		{api.MaxHands, api.ErrHands, func(l *api.Layout, capacity *int, n int) { l.Hands = n }},
		{api.MaxParts, api.ErrParts, func(l *api.Layout, capacity *int, n int) { l.Parts = n }},
		{api.MaxAhead, api.ErrAhead, func(l *api.Layout, capacity *int, n int) { l.Ahead = n }},
	} {
		for _, n := range []int{1, c.most} {
			l, capacity := one(), 1
			c.set(&l, &capacity, n)
			views(t, open(t, l, capacity), api.View{})
			views(t, restored(t, l, capacity, api.Snapshot{}), api.View{})
		}
		for _, n := range []int{0, -1, c.most + 1, math.MinInt, math.MaxInt} {
			l, capacity := one(), 1
			c.set(&l, &capacity, n)
			noNew(t, l, lib, capacity, c.code)
		}
	}
}

// 15.1: where several errors apply, in their order.
func TestNewErrorOrder(t *testing.T) {
	wrong := func(n int) int { return []int{0, 1 << 20}[n%2] }
	for n := range 2 {
		l, capacity := one(), 1
		l.Ahead = wrong(n)
		noNew(t, l, bank(), capacity, api.ErrAhead)
		l.Parts = wrong(n + 1)
		noNew(t, l, bank(), capacity, api.ErrParts)
		l.Hands = wrong(n)
		noNew(t, l, bank(), capacity, api.ErrHands)
		l.Workers = wrong(n + 1)
		noNew(t, l, bank(), capacity, api.ErrWorkers)
		capacity = wrong(n)
		noNew(t, l, bank(), capacity, api.ErrCapacity)
		noNew(t, l, []api.Proc{{}}, capacity, api.ErrName)
	}
	noNew(t, one(), slices.Repeat(bank(), 2), 8, api.ErrName)
	noNew(t, one(), make([]api.Proc, api.MaxProcs+1), 8, api.ErrProcs)
	noNew(t, one(), []api.Proc{{Name: "a", Program: api.Program{Args: api.MaxArgs + 1}}}, 8, api.ErrProgram)
	noNew(t, one(), []api.Proc{{Name: "a", Program: api.Program{Code: []api.Instr{{Op: api.NumOps}}}}}, 8, api.ErrOp)
}

// 15.1: a database without batches.
func TestNew(t *testing.T) {
	for _, l := range layouts() {
		e := open(t, l, 8)
		views(t, e, api.View{})
		ready(t, e)
		number(t, "Step", e.Step(0), -1)
		number(t, "Drain", e.Drain(), 0)
		last(t, e, row(1), api.Cell{})
		noOutcome(t, e, 0, 0, api.ErrBatch)
		noOutcome(t, e, 1, 0, api.ErrBatch)
		fails(t, "Pin(0)", e.Pin(0), api.OK)
		reads(t, e, 0, row(1), api.Cell{})
		scans(t, e, 0, few()[0], few()[len(few())-1])
		number(t, "Collect", e.Collect(), 0)
		number(t, "Drain", e.Drain(), 1)
		s := e.Snapshot()
		if s.Latest != 0 || len(s.Chains) != 0 || !slices.Equal(s.Pins, []api.Pin{{Count: 1}}) {
			t.Errorf("Snapshot: %v", s)
		}
		views(t, e, api.View{Steps: 2, Pins: s.Pins})
	}
}

// 15.1: a library may be empty: then the batches without transactions alone are sound.
func TestEmptyLibrary(t *testing.T) {
	for _, lib := range [][]api.Proc{nil, {}} {
		e, f := engine.New(one(), lib, 1)
		if f != api.OK {
			t.Fatal(f)
		}
		posts(t, e, 1)
		n, err := e.Post([]api.Tx{{}})
		txError(t, n, err, 0, api.ErrProc)
		n, err = e.Submit([]byte{0})
		if n != 2 || err != nil {
			t.Errorf("Submit: %d, %v", n, err)
		}
		number(t, "Drain", e.Drain(), 2)
	}
}

// 15.1: the door, the store and the board have one capacity.
func TestCapacity(t *testing.T) {
	for _, capacity := range []int{1, 2, 63, api.MaxCapacity} {
		for _, l := range layouts() {
			e := open(t, l, capacity)
			left := capacity
			n := 0
			for left > 0 {
				var b []api.Tx
				for i := range min(left, api.MaxTxs) {
					b = append(b, put(1, int64(i%3)))
				}
				left -= len(b)
				n++
				posts(t, e, n, b...)
			}
			m, err := e.Post([]api.Tx{put(2, 1)})
			refused(t, m, err, api.ErrRoom)
			posts(t, e, n+1, show(0, 1), rest())
			e.Drain()
			if v := e.View(); v.Live != capacity || v.Charge != capacity || v.Complete != n+1 {
				t.Errorf("%v: %v", l, v)
			}
		}
	}
}
