package scout_test

import (
	"testing"

	"prelude/api"
	"prelude/engine"
	"prelude/scout"
)

// pair is a database, and the world that it must be taken for.
type pair struct {
	e *engine.Engine
	w *world
}

// newPair is both without batches.
func newPair(t *testing.T, l api.Layout, lib []api.Proc, capacity int) pair {
	t.Helper()
	return pair{database(t, l, lib, capacity), newWorld(lib, capacity)}
}

// post lets a batch in.
func (p pair) post(t *testing.T, b []api.Tx) {
	t.Helper()
	n, err := p.e.Post(b)
	m, wrong := p.w.post(b)
	if n != m || (err == nil) != (wrong == nil) {
		t.Fatal(n, m, err, wrong)
	}
}

// run does wishes in both.
func (p pair) run(t *testing.T, procs int, wishes []api.Wish, tries int) []api.Fate {
	t.Helper()
	got := scout.Run(p.e, procs, wishes, tries)
	want := p.w.run(procs, wishes, tries)
	if len(got) != len(want) {
		t.Fatalf("%d fates of %d wishes", len(got), len(wishes))
	}
	for i := range got {
		same(t, "fate", got[i], want[i])
	}
	v := p.e.View()
	same(t, "pins", v.Pins, p.w.door.Pins())
	if v.Latest != p.w.door.Latest() || v.Charge != p.w.door.Charge() || v.Floor != p.w.door.Floor() {
		t.Fatalf("%v", v)
	}
	return got
}

// ask asks both for a wish's transaction.
func (p pair) ask(t *testing.T, n, procs int, w api.Wish) {
	t.Helper()
	x, f := scout.Foretell(p.e, n, procs, w)
	y, g := p.w.foretell(n, procs, w)
	if f != g {
		t.Fatalf("%v behind %d: %d, want %d", w, n, f, g)
	}
	same(t, "foretold", x, y)
}

// stood asks for what stands at all keys behind the last batch.
func (p pair) stood(t *testing.T) {
	t.Helper()
	n := p.w.db.Latest()
	if p.e.Pin(n) != api.OK {
		return
	}
	got, f := p.e.Scan(n, api.Key{Row: -1 << 63}, api.Key{Table: api.MaxTable, Row: 1<<63 - 1})
	p.e.Unpin(n)
	want, _ := p.w.db.Rows(n)
	if f != api.OK {
		t.Fatal(f)
	}
	same(t, "rows", got, want)
}

// 22.3, 22.4, 22.5, 22.7, 22.8: at any layout and whatever steps are taken, all is as the chapter says by the letter; what is done was foretold rightly, and it goes on.
func TestWhole(t *testing.T) {
	states := make([]int, 4)
	tries, held := 0, 0
	errors := map[api.Errno]int{}
	lib := guarded(t, 4)
	for i, l := range layouts() {
		m := newMaker(22)
		steps := newMaker(int64(i))
		for range 120 {
			p := newPair(t, l, lib, one(m, 100, 400, 4000))
			for range 12 {
				n := m.Intn(p.w.door.Latest() + 2)
				switch m.Intn(9) {
				case 0:
					if p.e.Pin(n) != p.w.door.Pin(n) {
						t.Fatal("pin", n)
					}
				case 1:
					if p.e.Unpin(n) != p.w.door.Unpin(n) {
						t.Fatal("unpin", n)
					}
				case 2:
					if p.e.Collect() != p.w.door.Collect() {
						t.Fatal("collect")
					}
				case 3, 4:
					p.post(t, m.batch())
				case 5, 6:
					for range 8 {
						p.ask(t, m.Intn(p.w.door.Latest()+1), bases(), m.wish())
					}
				default:
					wishes := m.wishes(one(m, 5, 20, 90))
					fates := p.run(t, bases(), wishes, one(m, 1, 2, 3, 6, 200))
					single, ahead := alone(t, lib, p.w.log)
					held += foretoldRightly(t, single, ahead, p.w.log, wishes, fates)
					for _, f := range fates {
						states[f.State]++
						errors[f.Err]++
						tries = max(tries, f.Tries)
					}
				}
				for range steps.Intn(9) {
					p.e.Step(steps.Int())
				}
			}
			p.stood(t)
		}
	}
	if states[api.FateDone] < 3000 || states[api.FateRefused] < 1000 || states[api.FateLeft] < 200 || held < 2000 || tries < 4 {
		t.Errorf("%v, %d guards, %d tries", states, held, tries)
	}
	for _, f := range []api.Errno{api.ErrKey, api.ErrLost, api.ErrTangled, api.ErrProc, api.ErrArgs, api.ErrReads, api.ErrWrites, api.ErrRoom} {
		if errors[f] < 10 {
			t.Errorf("%d times %d", errors[f], f)
		}
	}
}

// 22.8: of wishes none of which says by itself that it was foretold wrongly none is left with as many tries; and in each try the first one is done.
func TestGoesOn(t *testing.T) {
	m := newMaker(228)
	lib := guarded(t, 4)
	most := 0
	for i := range 300 {
		p := newPair(t, layouts()[i%3], lib, 60000)
		for range 3 {
			p.post(t, m.batch())
		}
		var wishes []api.Wish
		for _, w := range m.wishes(one(m, 10, 40, 100)) {
			if w.Proc != sly {
				wishes = append(wishes, w)
			}
		}
		fates := p.run(t, bases(), wishes, len(wishes))
		for i, f := range fates {
			if f.State == api.FateLeft {
				t.Fatalf("%v is left of %d", wishes[i], len(wishes))
			}
			most = max(most, f.Tries)
		}
		goesOn(t, 3, p.w.door.Latest(), fates)
	}
	if most < 4 {
		t.Errorf("%d tries", most)
	}
}

// 22.8: a thousand wishes that are all in one another's way.
func TestGoesOnForAThousand(t *testing.T) {
	e := database(t, layouts()[1], guarded(t, 1), api.MaxCapacity)
	stands(t, e, [3]int64{1, 7, 0})
	var wishes []api.Wish
	for range 1000 {
		wishes = append(wishes, api.Wish{Proc: add, Args: []int64{1}, Reads: paths(path(1, 7, 2)), Writes: paths(straight(1, 7))})
	}
	stands(t, e, [3]int64{2, 0, 1}, [3]int64{2, 2, 4}, [3]int64{2, 5, -1})
	for i, f := range scout.Run(e, bases(), wishes, 1001) {
		if f.State != api.FateDone || f.At != (api.Place{Batch: 3 + i}) || f.Tries != min(i+1, 64) {
			t.Fatalf("%d: %v", i, f)
		}
	}
	if v := e.View(); v.Latest != 1002 || len(v.Pins) != 0 {
		t.Errorf("%v", v)
	}
}
