package engine_test

import (
	"fmt"
	"math"
	"testing"

	"prelude/api"
	"prelude/engine"
)

// snapshots looks at what a Snapshot answers.
func snapshots(t *testing.T, e *engine.Engine, want api.Snapshot) {
	t.Helper()
	if s := e.Snapshot(); fmt.Sprint(s) != fmt.Sprint(want) {
		t.Errorf("Snapshot: %v, not %v", s, want)
	}
}

// stamp is a version in a snapshot.
func stamp(n, i int, c api.Cell) api.Stamp { return api.Stamp{Batch: n, Index: i, Cell: c} }

// chain is a key of table 0 with its versions in a snapshot.
func chain(at int64, list ...api.Stamp) api.Chain { return api.Chain{Key: row(at), Versions: list} }

// logSnapshot is what a Snapshot of the log answers.
func logSnapshot() api.Snapshot {
	return api.Snapshot{
		Latest: 8,
		Pins:   []api.Pin{{Batch: 0, Count: 1}, {Batch: 2, Count: 1}, {Batch: 6, Count: 1}},
		Chains: []api.Chain{
			chain(math.MinInt64, stamp(6, 2, value(0))),
			chain(-1, stamp(6, 0, value(-3))),
			chain(0, stamp(7, 3, value(1))),
			chain(1, stamp(2, 1, value(6)), stamp(6, 1, api.Cell{}), stamp(7, 1, value(8))),
			chain(2, stamp(2, 1, value(9)), stamp(3, 1, value(10)), stamp(7, 0, api.Cell{})),
			chain(3, stamp(6, 1, value(7)), stamp(7, 2, api.Cell{})),
		},
	}
}

// 15.5: a collect, a drain, and what is there then.
func TestSnapshot(t *testing.T) {
	for _, l := range layouts() {
		for _, begun := range []int{0, 1, 20, 55, 90, 500} {
			e, twin := log(t, l), log(t, l)
			for range begun {
				e.Step(-1)
				twin.Step(-1)
			}
			snapshots(t, e, logSnapshot())
			number(t, "Collect", twin.Collect(), 2)
			twin.Drain()
			if got, want := told(e), told(twin); got != want {
				t.Fatalf("%v, behind %d steps: a Snapshot has made this:\n%s\nnot this:\n%s", l, begun, got, want)
			}
			ready(t, e)
			for n := 1; n <= 8; n++ {
				noOutcome(t, e, n, 0, api.ErrGone)
			}
			snapshots(t, e, logSnapshot())
		}
	}
}

// 15.6: what was restored is there, filled, and complete.
func TestRestore(t *testing.T) {
	for _, l := range layouts() {
		e := restored(t, l, 11, logSnapshot())
		s := logSnapshot()
		views(t, e, api.View{Latest: 8, Complete: 8, Floor: 8, Charge: 11, Live: 11, Pins: s.Pins})
		ready(t, e)
		for _, c := range s.Chains {
			list := e.Versions(c.Key)
			for i, v := range list {
				if want := c.Versions[len(list)-1-i]; !v.Filled || stamp(v.Batch, v.Index, v.Cell) != want {
					t.Errorf("Versions(%v): %v", c.Key, list)
				}
			}
			number(t, "Versions", len(list), len(c.Versions))
		}
		reads(t, e, 0, row(1), api.Cell{})
		reads(t, e, 2, row(1), value(6))
		reads(t, e, 2, row(3), api.Cell{})
		reads(t, e, 6, row(2), value(10))
		last(t, e, row(2), api.Cell{})
		last(t, e, row(1), value(8))
		number(t, "Steps", e.View().Steps, 0)
		for n := 1; n <= 8; n++ {
			noOutcome(t, e, n, 0, api.ErrGone)
		}
		noOutcome(t, e, 0, 0, api.ErrBatch)
		noOutcome(t, e, 9, 0, api.ErrBatch)
		fails(t, "Pin(1)", e.Pin(1), api.ErrFloor)
		fails(t, "Pin(2)", e.Pin(2), api.OK)
		fails(t, "Pin(8)", e.Pin(8), api.OK)
		n, err := e.Post([]api.Tx{put(1, 1)})
		refused(t, n, err, api.ErrRoom)
		posts(t, e, 9, show(1, 2))
		outcome(t, e, 9, 0, api.Outcome{Commit: true, Out: []int64{1, 8, 0, 0}, Read: []api.Cell{value(8), {}}})
		number(t, "Steps", e.View().Steps, 2+2+8+2+l.Workers)
		fails(t, "Unpin(6)", e.Unpin(6), api.OK)
		number(t, "Collect", e.Collect(), 3)
		number(t, "Drain", e.Drain(), 4)
		posts(t, e, 10, bump(1), bump(2), bump(4))
		last(t, e, row(1), value(9))
		last(t, e, row(2), value(1))
		last(t, e, row(4), value(1))
		reads(t, e, 2, row(2), value(9))
	}
}

// 15.6: a cell with nothing goes in whatever its Value, and out with none.
func TestRestoreNothing(t *testing.T) {
	e := restored(t, one(), 8, api.Snapshot{Latest: 1, Chains: []api.Chain{chain(1, stamp(1, 63, api.Cell{Value: 9}))}})
	last(t, e, row(1), api.Cell{})
	e.Pin(1)
	reads(t, e, 1, row(1), api.Cell{})
	scans(t, e, 1, row(0), row(9))
	snapshots(t, e, api.Snapshot{Latest: 1, Pins: []api.Pin{{Batch: 1, Count: 1}}, Chains: []api.Chain{chain(1, stamp(1, 63, api.Cell{}))}})
}

// noRestore looks for an error of Restore.
func noRestore(t *testing.T, capacity int, s api.Snapshot, want api.Errno) {
	t.Helper()
	if e, f := engine.Restore(one(), bank(), capacity, s); e != nil || f != want {
		t.Errorf("Restore(%d, %v): %v, %d, not %d", capacity, s, e, f, want)
	}
}

// 15.6: what is no snapshot, or has no room.
func TestRestoreErrors(t *testing.T) {
	noRestore(t, 10, logSnapshot(), api.ErrRoom)
	noRestore(t, 1, logSnapshot(), api.ErrRoom)
	for i, spoil := range []func(s *api.Snapshot){
		func(s *api.Snapshot) { s.Latest = -1 },
		func(s *api.Snapshot) { s.Latest = 6 },
		func(s *api.Snapshot) { s.Latest = api.MaxNumber + 1 },
		func(s *api.Snapshot) { s.Pins = nil },
		func(s *api.Snapshot) { s.Pins[0].Count = 0 },
		func(s *api.Snapshot) { s.Pins[1].Batch = 0 },
		func(s *api.Snapshot) { s.Pins[2].Batch = 9 },
		func(s *api.Snapshot) { s.Chains[0].Key.Table = -1 },
		func(s *api.Snapshot) { s.Chains[1], s.Chains[2] = s.Chains[2], s.Chains[1] },
		func(s *api.Snapshot) { s.Chains[1].Key = s.Chains[2].Key },
		func(s *api.Snapshot) { s.Chains[1].Versions = nil },
		func(s *api.Snapshot) { s.Chains[3].Versions[1].Batch = 2 },
		func(s *api.Snapshot) { s.Chains[3].Versions[0].Batch = 0 },
		func(s *api.Snapshot) { s.Chains[3].Versions[0].Index = 64 },
		func(s *api.Snapshot) { s.Chains[3].Versions[0].Index = -1 },
	} {
		s := logSnapshot()
		spoil(&s)
		for _, capacity := range []int{1, 10, 11, 100} { // ahead of ErrRoom
			if e, f := engine.Restore(one(), bank(), capacity, s); e != nil || f != api.ErrImage {
				t.Errorf("row %d, capacity %d: %v, %d", i, capacity, e, f)
			}
		}
		noRestore(t, 0, s, api.ErrCapacity)
	}
	noRestore(t, 8, api.Snapshot{Latest: 9, Chains: []api.Chain{chain(1, stamp(1, 0, value(1)), stamp(2, 0, value(1)))}}, api.ErrImage)
}

// 15.6: behind a snapshot of the greatest number nothing is let in, but all else goes on.
func TestRestoreAtTheEnd(t *testing.T) {
	for _, l := range layouts() {
		e := restored(t, l, 8, api.Snapshot{
			Latest: api.MaxNumber,
			Pins:   []api.Pin{{Batch: api.MaxNumber - 1, Count: api.MaxNumber}},
			Chains: []api.Chain{chain(1, stamp(api.MaxNumber-1, 63, value(1)), stamp(api.MaxNumber, 0, value(2)))},
		})
		fails(t, "Pin", e.Pin(api.MaxNumber-1), api.ErrPins)
		fails(t, "Pin", e.Pin(api.MaxNumber), api.OK)
		reads(t, e, api.MaxNumber-1, row(1), value(1))
		reads(t, e, api.MaxNumber, row(1), value(2))
		last(t, e, row(1), value(2))
		n, err := e.Post(nil)
		refused(t, n, err, api.ErrLast)
		number(t, "Collect", e.Collect(), 0)
		number(t, "Drain", e.Drain(), 1)
		noOutcome(t, e, api.MaxNumber, 0, api.ErrGone)
		noOutcome(t, e, api.MaxNumber+1, 0, api.ErrBatch)
	}
}
