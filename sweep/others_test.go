package sweep_test

import (
	"slices"
	"testing"

	"prelude/api"
	"prelude/sweep"
)

// remove takes a version out by its number, as somebody else may.
func (w world) remove(t *testing.T, v int) {
	t.Helper()
	if e := w.st.Remove(v); e != api.OK {
		t.Fatalf("version %d can't be taken out: %d", v, e)
	}
}

// 13.4: which version goes is asked anew at each step: where somebody else has taken out what the floor has seen, it sees an older one, and that stays.
func TestNewestTakenOut(t *testing.T) {
	w := done(t, rows(1), rows(1), rows(1), rows(1))
	w.s.Order(4, nil)
	w.takes(t, 1)
	w.stands(t, at(1), "4.0, 3.0, 2.0")
	w.remove(t, 4)
	w.takes(t, 1)
	w.stands(t, at(1), "3.0")
	w.takes(t, 0)
	w.stands(t, at(1), "3.0")
}

// 13.4: the same of what a pinned batch has seen.
func TestPinnedTakenOut(t *testing.T) {
	w := done(t, rows(1), rows(1), rows(1), rows(1), rows(1))
	w.s.Order(5, []int{3})
	w.takes(t, 1)
	w.stands(t, at(1), "5.0, 4.0, 3.0, 2.0")
	w.remove(t, 3)
	w.takes(t, 1)
	w.stands(t, at(1), "5.0, 2.0")
	w.takes(t, 0)
}

// 13.4: what somebody else has taken out costs no step, within a key and of whole keys.
func TestTakenOutAhead(t *testing.T) {
	w := done(t, rows(1, 1, 1, 1), rows(2, 2, 2), rows(3, 3))
	w.s.Order(3, nil)
	w.takes(t, 1)
	w.stands(t, at(1), "1.3, 1.2, 1.1")
	w.remove(t, 2)
	for v := 5; v <= 7; v++ {
		w.remove(t, v)
	}
	w.takes(t, 1)
	w.stands(t, at(1), "1.3")
	w.stands(t, at(3), "3.1, 3.0")
	w.takes(t, 1)
	w.stands(t, at(3), "3.1")
	w.takes(t, 0)
}

// 13.4: all versions are taken out by somebody else: one step.
func TestAllTakenOut(t *testing.T) {
	w := done(t, rows(1, 1, 2, 2))
	w.s.Order(1, nil)
	w.takes(t, 1)
	for v := 2; v <= 4; v++ {
		w.remove(t, v)
	}
	w.takes(t, 0)
	w.waits(t, 0)
}

// 13.4: what is laid while a job is under way is above its floor, and stays: at the key that it is at, at others, and at new ones ahead of it and behind.
func TestLaidMeanwhile(t *testing.T) {
	w := done(t, rows(5, 5, 5), rows(7, 7, 7))
	w.posts(t, rows(5, 7, 7, 1, 1, 6, 6, 9, 9)) // posted ahead of the Order: it is not held
	w.s.Order(2, []int{0})
	w.takes(t, 1)
	for range 4 {
		w.b.Step(0)
	}
	w.takes(t, 1)
	w.lays()
	if w.b.Laid() != 3 {
		t.Fatalf("Laid: %d", w.b.Laid())
	}
	w.stands(t, at(5), "3.0, 1.2")
	w.takes(t, 1)
	w.stands(t, at(7), "3.2, 3.1, 2.2, 2.1")
	w.takes(t, 1, 0)
	w.stands(t, at(7), "3.2, 3.1, 2.2")
	w.stands(t, at(1), "3.4, 3.3")
	w.stands(t, at(6), "3.6, 3.5")
	w.stands(t, at(9), "3.8, 3.7")
	w.stands(t, at(5), "3.0, 1.2")
}

// 13.4: a version that was laid meanwhile is not what the floor sees, when the older ones are taken out.
func TestLaidAndTakenOut(t *testing.T) {
	w := done(t, rows(1, 1, 1, 1))
	w.posts(t, rows(1))
	w.s.Order(1, nil)
	w.takes(t, 1)
	w.lays()
	w.stands(t, at(1), "2.0, 1.3, 1.2, 1.1")
	w.remove(t, 4)
	w.takes(t, 1)
	w.stands(t, at(1), "2.0, 1.2")
	w.takes(t, 0)
}

// 13.4: what is laid behind the Order, and up to its floor, is of the job.
func TestLaidBehindTheOrder(t *testing.T) {
	w := small(t)
	w.posts(t, rows(1, 2, 1), rows(2, 1, 3, 3))
	w.s.Order(2, nil)
	w.completes(t)
	w.takes(t, 1, 1, 1, 1, 0)
	w.stands(t, at(1), "2.1")
	w.stands(t, at(2), "2.0")
	w.stands(t, at(3), "2.3")
}

// Two sweepers of one board: each does its own jobs, over what the other one has left.
func TestTwoSweepers(t *testing.T) {
	w := done(t, rows(1, 2, 1), rows(2, 1), rows(1, 2), rows(3, 3, 3))
	other := w
	other.s = sweep.New(w.b, w.st)
	w.s.Order(4, []int{1})
	other.s.Order(3, []int{2})
	if w.s.Waiting() != 1 || other.s.Waiting() != 1 {
		t.Fatalf("Waiting: %d, %d", w.s.Waiting(), other.s.Waiting())
	}
	w.takes(t, 1) // 1: it keeps 3.0, 1.2
	w.stands(t, at(1), "3.0, 2.1, 1.2")
	other.takes(t, 1) // it keeps 3.0, 2.1
	w.stands(t, at(1), "3.0, 2.1")
	other.takes(t, 1) // 2: it keeps 3.1, 2.0
	w.stands(t, at(2), "3.1, 2.0")
	w.takes(t, 1, 1) // at 1 there is no 1.2 any more, so the pin sees nothing, and 2.1 goes; at 2 it is the same
	w.stands(t, at(1), "3.0")
	w.stands(t, at(2), "3.1")
	other.takes(t, 0)
	w.takes(t, 1, 1, 0)
	w.stands(t, at(3), "4.2")
	w.waits(t, 0)
	other.waits(t, 0)
	if got := w.holds(); got != 0 {
		t.Errorf("%d holds stand", got)
	}
}

// R6: sweepers of two boards know nothing of one another.
func TestTwoWorlds(t *testing.T) {
	a, b := done(t, rows(1, 1)), done(t, rows(1, 1))
	a.s.Order(1, nil)
	b.waits(t, 0)
	a.takes(t, 1, 0)
	b.stands(t, at(1), "1.1, 1.0")
	if got := b.holds(); got != 0 {
		t.Errorf("%d holds stand", got)
	}
}

// R4: the pins that are handed in are not kept, and neither they nor what lies behind their end are changed.
func TestHandedInPins(t *testing.T) {
	for _, laid := range []bool{false, true} {
		w := small(t)
		w.posts(t, rows(1, 2), rows(1, 2), rows(1, 2), rows(1, 2))
		pins := []int{3, 1, 77, 3, 66}[:2]
		if laid {
			w.completes(t)
		}
		w.s.Order(4, pins)
		if !slices.Equal(pins[:5], []int{3, 1, 77, 3, 66}) {
			t.Fatalf("the pins are %v", pins[:5])
		}
		pins[1] = 2
		w.completes(t)
		w.takes(t, 1)
		pins[0] = 2
		w.takes(t, 1, 0)
		if !slices.Equal(pins[:5], []int{2, 2, 77, 3, 66}) {
			t.Fatalf("the pins are %v", pins[:5])
		}
		w.stands(t, at(1), "4.0, 3.0, 1.0")
		w.stands(t, at(2), "4.1, 3.1, 1.1")
	}
}

// R4: Drops changes nothing that it is given, what lies behind its end too; and its answer is its own.
func TestHandedInChain(t *testing.T) {
	chain := versions(3, 2, 1, 9, 8)[:3]
	pins := []int{2, 1, 7, 6}[:2]
	drops := sweep.Drops(chain, 3, pins)
	again := sweep.Drops(chain, 3, pins[:1])
	if !slices.Equal(chain[:5], versions(3, 2, 1, 9, 8)) || !slices.Equal(pins[:4], []int{2, 1, 7, 6}) {
		t.Errorf("the chain is %v, the pins are %v", chain[:5], pins[:4])
	}
	for i := range drops[:cap(drops)] {
		drops[:cap(drops)][i] = true
	}
	if marks(again) != "kkd" {
		t.Errorf("another answer has become %s", marks(again))
	}
	for i := range again[:cap(again)] {
		again[:cap(again)][i] = true
	}
	if got := marks(sweep.Drops(chain, 3, pins)); got != "kkk" {
		t.Errorf("Drops: %s", got)
	}
}
