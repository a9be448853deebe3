package engine_test

import (
	"math"
	"testing"

	"prelude/api"
	"prelude/engine"
)

// noKeys is what is no key.
func noKeys() []api.Key {
	return []api.Key{{Table: -1}, {Table: api.MaxTable + 1}, {Table: math.MinInt, Row: 1}, {Table: math.MaxInt, Row: 1}}
}

// bySteps does what settling a batch is said to do.
func bySteps(e *engine.Engine, n int) {
	for e.View().Complete < n {
		e.Step(0)
	}
}

// log is a database with a row of batches, of which no step was taken, with a collect in their midst, and with batches 0, 2 and 6 pinned.
func log(t *testing.T, l api.Layout) *engine.Engine {
	t.Helper()
	e := first(t, l, 100)
	e.Pin(0)
	e.Pin(2)
	posts(t, e, 3, drop(1), bump(2), show(1, 2), put(7, 3))
	posts(t, e, 4)
	e.Collect()
	posts(t, e, 5, rest())
	posts(t, e, 6, put(-3, -1), keep(1, 3), put(0, math.MinInt64))
	e.Pin(6)
	posts(t, e, 7, drop(2), put(8, 1), drop(3), bump(0))
	posts(t, e, 8, show(1, 2))
	return e
}

// 15.4: a batch is settled by steps of the first ready task, and no more of them than it takes.
func TestSettles(t *testing.T) {
	for _, l := range layouts() {
		for _, c := range []struct {
			n    int
			what string
			call func(e *engine.Engine) api.Errno
		}{
			{0, "Read(0, 1)", func(e *engine.Engine) api.Errno { _, f := e.Read(0, row(1)); return f }},
			{2, "Read(2, 1)", func(e *engine.Engine) api.Errno { _, f := e.Read(2, row(1)); return f }},
			{6, "Read(6, 9)", func(e *engine.Engine) api.Errno { _, f := e.Read(6, row(9)); return f }},
			{8, "Last(1)", func(e *engine.Engine) api.Errno { _, f := e.Last(row(1)); return f }},
			{8, "Last(9)", func(e *engine.Engine) api.Errno { _, f := e.Last(row(9)); return f }},
			{0, "Scan(0, 1, 2)", func(e *engine.Engine) api.Errno { _, f := e.Scan(0, row(1), row(2)); return f }},
			{2, "Scan(2, 1, 2)", func(e *engine.Engine) api.Errno { _, f := e.Scan(2, row(1), row(2)); return f }},
			{6, "Scan(6, 2, 1)", func(e *engine.Engine) api.Errno { _, f := e.Scan(6, row(2), row(1)); return f }},
			{5, "Outcome(5, 0)", func(e *engine.Engine) api.Errno { _, f := e.Outcome(5, 0); return f }},
			{8, "Outcome(8, 0)", func(e *engine.Engine) api.Errno { _, f := e.Outcome(8, 0); return f }},
		} {
			for _, begun := range []int{0, 1, 20, 55, 90, 500} {
				e, twin := log(t, l), log(t, l)
				for range begun {
					e.Step(-1)
					twin.Step(-1)
				}
				fails(t, c.what, c.call(e), api.OK)
				bySteps(twin, c.n)
				if got, want := told(e), told(twin); got != want {
					t.Fatalf("%v, behind %d steps: %s has made this:\n%s\nnot this:\n%s", l, begun, c.what, got, want)
				}
				unchanged(t, e, "a second "+c.what, func() { c.call(e) })
			}
		}
	}
}

// 15.4: a batch that is complete takes no step, though others are to come, and jobs of the sweeper.
func TestSettlesNoMore(t *testing.T) {
	for _, l := range layouts() {
		e := first(t, l, 100)
		e.Pin(1)
		e.Pin(2)
		e.Collect()
		last(t, e, row(2), value(9))
		number(t, "Steps", e.View().Steps, 50+2*l.Workers)
		posts(t, e, 3, put(3, 1))
		unchanged(t, e, "what is complete", func() {
			reads(t, e, 1, row(2), value(5))
			reads(t, e, 2, row(2), value(9))
			scans(t, e, 2, row(2), row(3), api.Row{Key: row(2), Value: 9})
		})
		outcome(t, e, 3, 0, api.Outcome{Commit: true})
		e.Collect()
		unchanged(t, e, "what is complete", func() { last(t, e, row(1), value(3)) })
	}
}

// 15.4: what is read behind pinned batches.
func TestRead(t *testing.T) {
	for _, l := range layouts() {
		e := log(t, l)
		for range 2 { // as it comes, and once more when all is done
			for k, want := range map[api.Key][3]api.Cell{
				row(1):             {{}, value(6), {}},
				row(2):             {{}, value(9), value(10)},
				row(3):             {{}, {}, value(7)},
				row(-1):            {{}, {}, value(-3)},
				row(math.MinInt64): {{}, {}, value(0)},
				row(0):             {},
				row(4):             {},
				row(math.MaxInt64): {},
				{Table: 1, Row: 1}: {},
				{Table: api.MaxTable, Row: math.MinInt64}: {},
			} {
				for i, n := range []int{0, 2, 6} {
					reads(t, e, n, k, want[i])
				}
			}
			e.Drain()
			e.Collect()
			e.Drain()
		}
	}
}

// 15.4: the errors of Read, in their order; they take no step.
func TestReadErrors(t *testing.T) {
	e := log(t, one())
	unchanged(t, e, "a Read that is refused", func() {
		for _, n := range []int{-1, 1, 3, 4, 5, 7, 8, 9, math.MinInt, math.MaxInt} {
			for _, k := range append(noKeys(), row(1)) {
				c, f := e.Read(n, k)
				fails(t, "Read", f, api.ErrPin)
				if c != (api.Cell{}) {
					t.Errorf("Read: %v beside an error", c)
				}
			}
		}
		for _, n := range []int{0, 2, 6} {
			for _, k := range noKeys() {
				_, f := e.Read(n, k)
				fails(t, "Read", f, api.ErrKey)
			}
		}
		for _, k := range noKeys() {
			_, f := e.Last(k)
			fails(t, "Last", f, api.ErrKey)
		}
	})
	fails(t, "Unpin", e.Unpin(6), api.OK)
	_, f := e.Read(6, row(1))
	fails(t, "Read", f, api.ErrPin)
}

// 15.4: what stands behind the last batch.
func TestLast(t *testing.T) {
	for _, l := range layouts() {
		e := log(t, l)
		for k, want := range map[api.Key]api.Cell{
			row(1):             value(8),
			row(2):             {},
			row(3):             {},
			row(0):             value(1),
			row(-1):            value(-3),
			row(math.MinInt64): value(0),
			row(4):             {},
			{Table: 1, Row: 1}: {},
		} {
			last(t, e, k, want)
		}
		posts(t, e, 9, put(4, 1), put(5, 1))
		last(t, e, row(1), value(5))
	}
}

// 15.4: what is scanned: both ends too, nothing where nothing stands, in the order of keys.
func TestScan(t *testing.T) {
	end := api.Key{Table: api.MaxTable, Row: math.MaxInt64}
	for _, l := range layouts() {
		e := log(t, l)
		least := api.Row{Key: row(math.MinInt64)}
		minus := api.Row{Key: row(-1), Value: -3}
		two, three := api.Row{Key: row(2), Value: 10}, api.Row{Key: row(3), Value: 7}
		scans(t, e, 6, row(math.MinInt64), end, least, minus, two, three)
		scans(t, e, 6, row(math.MinInt64), row(math.MinInt64), least)
		scans(t, e, 6, row(math.MinInt64+1), row(3), minus, two, three)
		scans(t, e, 6, row(-1), row(2), minus, two)
		scans(t, e, 6, row(0), row(1))
		scans(t, e, 6, row(3), row(3), three)
		scans(t, e, 6, row(3), row(2))
		scans(t, e, 6, row(4), end)
		scans(t, e, 6, end, end)
		scans(t, e, 6, end, row(math.MinInt64))
		scans(t, e, 2, row(math.MinInt64), end, api.Row{Key: row(1), Value: 6}, api.Row{Key: row(2), Value: 9})
		scans(t, e, 0, row(math.MinInt64), end)
		posts(t, e, 9, api.Tx{Proc: procPut, Args: []int64{5}, Writes: []api.Key{end}}, api.Tx{Proc: procPut, Args: []int64{6}, Writes: []api.Key{{Table: 1, Row: -5}}})
		e.Pin(9)
		scans(t, e, 9, row(1), end, api.Row{Key: row(1), Value: 8}, api.Row{Key: api.Key{Table: 1, Row: -5}, Value: 6}, api.Row{Key: end, Value: 5})
		scans(t, e, 9, api.Key{Table: 1, Row: math.MinInt64}, api.Key{Table: 1, Row: math.MaxInt64}, api.Row{Key: api.Key{Table: 1, Row: -5}, Value: 6})
		scans(t, e, 9, api.Key{Table: 1, Row: -4}, api.Key{Table: 2, Row: -6})
	}
}

// 15.4: the errors of Scan, in their order; they take no step.
func TestScanErrors(t *testing.T) {
	e := log(t, one())
	unchanged(t, e, "a Scan that is refused", func() {
		for _, n := range []int{-1, 1, 8, 9, math.MinInt, math.MaxInt} {
			for _, k := range append(noKeys(), row(1)) {
				list, f := e.Scan(n, k, row(2))
				fails(t, "Scan", f, api.ErrPin)
				if len(list) > 0 {
					t.Errorf("Scan: %v beside an error", list)
				}
			}
		}
		for _, k := range noKeys() {
			for _, ends := range [][2]api.Key{{k, row(1)}, {row(1), k}, {k, k}} {
				_, f := e.Scan(2, ends[0], ends[1])
				fails(t, "Scan", f, api.ErrKey)
			}
		}
	})
}

// 15.4: the outcomes, and the errors of Outcome, in their order, which take no step.
func TestOutcome(t *testing.T) {
	for _, l := range layouts() {
		e := log(t, l)
		unchanged(t, e, "an Outcome that is refused", func() {
			for _, i := range []int{-1, 0, 64, math.MinInt, math.MaxInt} {
				for _, n := range []int{math.MinInt, -1, 0, 9, math.MaxInt} {
					noOutcome(t, e, n, i, api.ErrBatch)
				}
				for _, n := range []int{1, 2, 3, 4} {
					noOutcome(t, e, n, i, api.ErrGone)
				}
			}
			for n, size := range []int{5: 1, 6: 3, 7: 4, 8: 1} {
				for _, i := range []int{-1, size, 64, math.MinInt, math.MaxInt} {
					if n >= 5 {
						noOutcome(t, e, n, i, api.ErrIndex)
					}
				}
			}
		})
		outcome(t, e, 7, 3, api.Outcome{Commit: true, Out: []int64{0}, Read: []api.Cell{{}}})
		outcome(t, e, 8, 0, api.Outcome{Commit: true, Out: []int64{1, 8, 0, 0}, Read: []api.Cell{value(8), {}}})
		outcome(t, e, 5, 0, api.Outcome{Commit: true})
		posts(t, e, 9, api.Tx{Proc: procLate, Args: []int64{0}, Reads: rows(1), Writes: rows(1, 2)}, api.Tx{Proc: procLate, Args: []int64{1}, Reads: rows(1), Writes: rows(1, 2)}, rest())
		for i, want := range []api.Outcome{
			{Code: api.FaultDivide, Read: []api.Cell{value(8)}},
			{Code: api.FaultAbort, User: 1, Read: []api.Cell{value(8)}},
			{Commit: true},
		} {
			outcome(t, e, 9, i, want)
		}
		noOutcome(t, e, 9, 3, api.ErrIndex)
		last(t, e, row(1), value(8))
	}
}
