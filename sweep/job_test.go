package sweep_test

import (
	"math"
	"slices"
	"testing"
	"time"

	"prelude/api"
	"prelude/sweep"
)

// 13.2: a new sweeper has no jobs, and does nothing to its board and its store.
func TestNew(t *testing.T) {
	w := done(t, rows(1, 1), rows(1, 2))
	w.posts(t, rows(1))
	w.b.Hold()
	before := w.told()
	other := w
	other.s = sweep.New(w.b, w.st)
	other.waits(t, 0)
	w.waits(t, 0)
	if after := w.told(); after != before {
		t.Errorf("a New has made of\n%s\nthis:\n%s", before, after)
	}
	w.completes(t)
	w.waits(t, 0)
	if got := w.holds(); got != 1 {
		t.Errorf("%d holds stand, not 1", got)
	}
}

// 13.2: what stood in the store when the board began is of its jobs too; behind batch 7 nothing below is waited for.
func TestBehindABatch(t *testing.T) {
	st := newStore(t, 3, 50)
	for n := 1; n <= 7; n++ {
		st.Insert(at(1), n, 63)
		st.Insert(at(2), n, 0)
	}
	w := over(t, st, 2, 1, 7)
	w.s.Order(6, []int{2, 7})
	w.takes(t, 1, 1, 1, 1, 1, 1, 1, 1, 0)
	w.stands(t, at(1), "7.63, 6.63, 2.63")
	w.stands(t, at(2), "7.0, 6.0, 2.0")
	w.s.Order(7, nil)
	w.takes(t, 1, 1, 1, 1, 0)
	w.stands(t, at(1), "7.63")
	w.waits(t, 0)
}

// 13.3: each Order is one more job, and one more hold at the latest batch.
func TestOrderHolds(t *testing.T) {
	w := small(t)
	w.posts(t, rows(1), rows(1))
	for n := 1; n <= 5; n++ {
		w.s.Order(2, nil)
		if got := w.s.Waiting(); got != n {
			t.Fatalf("Waiting: %d, not %d", got, n)
		}
	}
	if w.b.Held(2) || !w.b.Held(3) {
		t.Errorf("Held(2): %v, Held(3): %v", w.b.Held(2), w.b.Held(3))
	}
	if got := w.holds(); got != 5 {
		t.Errorf("%d holds stand, not 5", got)
	}
}

// 13.3: the hold stands at the latest batch, whatever the floor is.
func TestOrderHoldsAtTheLatest(t *testing.T) {
	for _, floor := range []int{math.MinInt, -1, 0, 1, 2, 3, 99, math.MaxInt} {
		w := small(t)
		w.posts(t, rows(1), rows(1))
		w.s.Order(floor, nil)
		if w.b.Held(2) || !w.b.Held(3) {
			t.Errorf("Order(%d): Held(2): %v, Held(3): %v", floor, w.b.Held(2), w.b.Held(3))
		}
	}
}

// 13.3: the floor is not above the latest batch at the Order; 13.4: up to the floor all batches must be complete, and no more.
func TestOrderFloor(t *testing.T) {
	for _, c := range []struct {
		floor int
		ready int // behind which batch the job is ready
		want  string
	}{
		{math.MinInt, 0, "4.0, 3.0, 2.0, 1.0"},
		{-1, 0, "4.0, 3.0, 2.0, 1.0"},
		{0, 0, "4.0, 3.0, 2.0, 1.0"},
		{1, 1, "4.0, 3.0, 2.0, 1.0"},
		{2, 2, "4.0, 3.0, 2.0"},
		{3, 3, "4.0, 3.0"},
		{4, 3, "4.0, 3.0"},
		{math.MaxInt, 3, "4.0, 3.0"},
	} {
		w := small(t)
		w.posts(t, rows(1), rows(1), rows(1))
		w.s.Order(c.floor, nil)
		w.posts(t, rows(1))
		w.lays()
		for n := range 4 {
			if n > 0 {
				w.finish(t, p(n, 0))
			}
			if got := w.s.Ready(); got != (n >= c.ready) {
				t.Errorf("Order(%d), behind batch %d: Ready: %v", c.floor, n, got)
			}
			if n < c.ready {
				w.waits(t, 1)
			}
		}
		for w.s.Step() {
		}
		w.completes(t)
		w.stands(t, at(1), c.want)
	}
}

// 13.3: a floor that is above the latest batch does not grow with it.
func TestOrderFloorStays(t *testing.T) {
	w := small(t)
	w.s.Order(5, nil)
	w.s.Order(5, []int{1})
	w.posts(t, rows(1, 1), rows(1, 1))
	w.takes(t, 0, 0)
	w.completes(t)
	w.stands(t, at(1), "2.1, 2.0, 1.1, 1.0")
}

// 13.4: a job whose floor's batch is empty is ready as soon as it is complete.
func TestEmptyBatches(t *testing.T) {
	w := done(t, rows(1), rows(1))
	w.posts(t, nil)
	w.s.Order(3, nil)
	w.waits(t, 1)
	w.lays()
	w.takes(t, 1, 0)
	w.stands(t, at(1), "2.0")
	w = small(t)
	w.s.Order(0, nil)
	w.takes(t, 0)
	w.waits(t, 0)
}

// 13.3, 13.4: pins of all kinds.
func TestOrderPins(t *testing.T) {
	for _, c := range []struct {
		pins []int
		want string
	}{
		{nil, "5.1, 4.1"},
		{[]int{}, "5.1, 4.1"},
		{[]int{0}, "5.1, 4.1"},
		{[]int{1}, "5.1, 4.1, 1.1"},
		{[]int{2}, "5.1, 4.1, 2.1"},
		{[]int{3}, "5.1, 4.1, 2.1"},
		{[]int{3, 2}, "5.1, 4.1, 2.1"},
		{[]int{3, 1, 3, 1}, "5.1, 4.1, 2.1, 1.1"},
		{[]int{4, 5, 6, 99}, "5.1, 4.1"},
		{[]int{math.MaxInt, math.MinInt, -1}, "5.1, 4.1"},
		{[]int{2, math.MaxInt, math.MinInt, 1}, "5.1, 4.1, 2.1, 1.1"},
	} {
		w := done(t, rows(7, 7), rows(7, 7), rows(6), rows(7, 7), rows(6, 7)) // batch 5 is above the floor
		w.s.Order(4, c.pins)
		for w.s.Step() {
		}
		w.stands(t, at(7), c.want)
		w.stands(t, at(6), "5.0, 3.0")
		if got, want := w.st.Live(), len(w.st.Chain(at(7)))+2; got != want {
			t.Errorf("pins %v: %d versions, not %d", c.pins, got, want)
		}
	}
}

// 13.4: of the least key, in whichever partition it is, the oldest version first.
func TestInOrder(t *testing.T) {
	set := []api.Key{ // falling
		{Table: 65535, Row: math.MaxInt64}, {Table: 65535, Row: math.MinInt64}, {Table: 300, Row: 2}, {Table: 2, Row: 300},
		{Table: 2, Row: 0}, {Table: 2, Row: -1}, {Table: 1, Row: 5}, {Row: math.MaxInt64}, {Row: 3}, {Row: 0}, {Row: -1}, {Row: math.MinInt64},
	}
	for _, parts := range []int{1, 2, 7, 256} {
		w := over(t, newStore(t, parts, 500), 3, 16, 0)
		for range 3 {
			w.posts(t, writes(slices.Concat(set, set)...))
		}
		w.completes(t)
		w.s.Order(3, []int{1})
		for _, k := range slices.Backward(set) {
			n := len(w.numbers(k))
			if n != 6 {
				t.Fatalf("%v has %d versions", k, n)
			}
			first := slices.Index(set, k)
			for _, gone := range []api.Place{p(1, first), p(2, first), p(2, first+len(set)), p(3, first)} {
				w.takes(t, 1)
				for _, v := range w.st.Chain(k) {
					if p(v.Batch, v.Index) == gone {
						t.Fatalf("parts %d: %v is not taken out of %v in its turn: %s", parts, gone, k, w.chain(k))
					}
				}
			}
			if got := len(w.numbers(k)); got != 2 {
				t.Fatalf("parts %d: %v has %d versions in the end", parts, k, got)
			}
		}
		w.takes(t, 0)
	}
}

// 13.4: what is taken out is just that version: the others keep their numbers, cells and places.
func TestOthersStay(t *testing.T) {
	w := done(t, rows(1, 2), rows(1, 2), rows(2, 1))
	for v := 1; v <= 6; v++ {
		w.st.Fill(v, api.Cell{Is: v != 4, Value: int64(10 * v)})
	}
	w.s.Order(3, []int{2})
	w.takes(t, 1, 1, 0)
	for k, want := range map[api.Key][]api.Version{
		at(1): {{Batch: 3, Index: 1, Filled: true, Cell: api.Cell{Is: true, Value: 60}}, {Batch: 2, Filled: true, Cell: api.Cell{Is: true, Value: 30}}},
		at(2): {{Batch: 3, Filled: true, Cell: api.Cell{Is: true, Value: 50}}, {Batch: 2, Index: 1, Filled: true}},
	} {
		if got := w.st.Chain(k); !slices.Equal(got, want) {
			t.Errorf("at %v there stand %v, not %v", k, got, want)
		}
	}
	if got := slices.Concat(w.numbers(at(1)), w.numbers(at(2))); !slices.Equal(got, []int{6, 3, 5, 4}) {
		t.Errorf("the versions are %v", got)
	}
}

// 13.3, 13.4: jobs are done one behind the other, each by its own floor and pins, and each frees the oldest hold.
func TestJobsInTurn(t *testing.T) {
	w := small(t)
	w.posts(t, rows(1), rows(1))
	w.s.Order(2, []int{1})
	w.posts(t, rows(1), rows(1))
	w.s.Order(1, nil) // nothing: there stands one version up to 1
	w.s.Order(4, []int{2})
	w.posts(t, rows(1))
	w.completes(t)
	if w.b.Complete() != 2 {
		t.Fatalf("Complete: %d", w.b.Complete())
	}
	w.stands(t, at(1), "2.0, 1.0")
	w.takes(t, 0)
	if w.b.Held(3) || w.b.Held(4) || !w.b.Held(5) {
		t.Fatalf("behind the first job: Held(3): %v, Held(4): %v, Held(5): %v", w.b.Held(3), w.b.Held(4), w.b.Held(5))
	}
	w.takes(t, 0)
	if !w.b.Held(5) {
		t.Fatal("behind the second job Held(5) is false")
	}
	w.waits(t, 1)
	w.completes(t)
	if w.b.Complete() != 4 {
		t.Fatalf("Complete: %d", w.b.Complete())
	}
	w.stands(t, at(1), "4.0, 3.0, 2.0, 1.0")
	w.takes(t, 1)
	w.stands(t, at(1), "4.0, 3.0, 2.0")
	w.takes(t, 1)
	w.stands(t, at(1), "4.0, 2.0")
	w.takes(t, 0)
	if w.b.Held(5) {
		t.Fatal("behind the third job Held(5) is true")
	}
	w.waits(t, 0)
	w.completes(t)
	w.stands(t, at(1), "5.0, 4.0, 2.0")
}

// 13.4: a later job does not come ahead of the first one, though it could be done.
func TestFirstJobFirst(t *testing.T) {
	w := done(t, rows(1), rows(1))
	w.posts(t, rows(1))
	w.s.Order(3, nil)
	w.s.Order(2, nil)
	w.waits(t, 2)
	w.completes(t)
	w.takes(t, 1, 1)
	w.stands(t, at(1), "3.0")
	w.takes(t, 0, 0)
	w.waits(t, 0)
}

// 13.4: the end of a job frees the oldest hold of the board, whoever has put it there; and is an end too, if there is none.
func TestFreesTheOldest(t *testing.T) {
	w := done(t, rows(1))
	w.b.Hold()
	w.posts(t, rows(1))
	w.s.Order(1, nil)
	w.posts(t, rows(1))
	w.takes(t, 0)
	if w.b.Held(2) || !w.b.Held(3) {
		t.Errorf("Held(2): %v, Held(3): %v", w.b.Held(2), w.b.Held(3))
	}
	if got := w.holds(); got != 1 {
		t.Errorf("%d holds stand, not 1", got)
	}
	w.s.Order(1, nil)
	w.b.Free()
	w.takes(t, 0)
	w.waits(t, 0)
}

// 13.4: Ready and Waiting change nothing, however often they are asked.
func TestAskedOften(t *testing.T) {
	w := done(t, rows(1, 1, 1))
	w.s.Order(1, nil)
	before := w.told()
	for range 9 {
		if !w.s.Ready() || w.s.Waiting() != 1 {
			t.Fatalf("Ready: %v, Waiting: %d", w.s.Ready(), w.s.Waiting())
		}
	}
	if after := w.told(); after != before {
		t.Errorf("what was\n%s\nis\n%s", before, after)
	}
	w.takes(t, 1)
	for range 9 {
		w.s.Ready()
		w.s.Waiting()
	}
	w.takes(t, 1, 0)
}

// 13.4: versions that are not filled go too, and batches that the board has forgotten are complete.
func TestForgotten(t *testing.T) {
	w := done(t, rows(1), rows(1), rows(1))
	w.st.Fill(2, api.Cell{Is: true, Value: 1})
	w.b.Forget(3)
	w.s.Order(3, nil)
	w.takes(t, 1, 1, 0)
	w.stands(t, at(1), "3.0")
}

// 13.5: as many steps as there are versions to take out, and one; of a full store too, with all its versions at one key, or some at each, and the job is no matter of hours.
func TestFullStore(t *testing.T) {
	for _, c := range []struct {
		each int // versions a key
		pins []int
		keep int // of each key
	}{
		{api.MaxCapacity, nil, 1},
		{api.MaxCapacity, []int{0, 1, 1, 2, 40000}, 4},
		{4, []int{3}, 2},
		{2, nil, 1},
		{2, []int{1}, 2},
		{1, nil, 1},
	} {
		st := newStore(t, 16, api.MaxCapacity)
		for v := range api.MaxCapacity {
			if _, e := st.Insert(at(int64(v/c.each)), v%c.each+1, 0); e != api.OK {
				t.Fatal(e)
			}
		}
		w := over(t, st, 1, 1, api.MaxCapacity)
		w.s.Order(api.MaxCapacity, c.pins)
		steps := 0
		begun := time.Now()
		for w.s.Step() {
			steps++
		}
		if took := time.Since(begun); took > time.Minute {
			t.Errorf("%d a key: it took %v", c.each, took)
		}
		keep := api.MaxCapacity / c.each * c.keep
		if st.Live() != keep || steps != api.MaxCapacity-keep+1 {
			t.Errorf("%d a key, pins %v: %d versions left behind %d steps", c.each, c.pins, st.Live(), steps)
		}
	}
}
