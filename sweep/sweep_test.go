package sweep_test

import (
	"fmt"
	"slices"
	"strings"
	"testing"

	"prelude/api"
	"prelude/cc"
	"prelude/store"
	"prelude/sweep"
)

// at is a key of table 0.
func at(row int64) api.Key { return api.Key{Row: row} }

// p is a place.
func p(batch, index int) api.Place { return api.Place{Batch: batch, Index: index} }

// writes is a batch of transactions that write one key each.
func writes(set ...api.Key) []api.Tx {
	var list []api.Tx
	for _, k := range set {
		list = append(list, api.Tx{Writes: []api.Key{k}})
	}
	return list
}

// rows is a batch of transactions that write one key of table 0 each.
func rows(list ...int64) []api.Tx {
	var set []api.Key
	for _, r := range list {
		set = append(set, at(r))
	}
	return writes(set...)
}

// world is a store, a board over it, and a sweeper of both.
type world struct {
	workers int
	st      *store.Store
	b       *cc.Board
	s       *sweep.Sweeper
}

// newStore is a store.
func newStore(t *testing.T, parts, capacity int) *store.Store {
	t.Helper()
	st, e := store.New(parts, capacity)
	if e != api.OK {
		t.Fatalf("a store of %d, %d: %d", parts, capacity, e)
	}
	return st
}

// over is a world over a store, behind a batch.
func over(t *testing.T, st *store.Store, workers, ahead, latest int) world {
	t.Helper()
	b, e := cc.New(st, workers, ahead, latest)
	if e != api.OK {
		t.Fatalf("a board of %d, %d, %d: %d", workers, ahead, latest, e)
	}
	s := sweep.New(b, st)
	if s == nil {
		t.Fatal("New: no sweeper")
	}
	return world{workers, st, b, s}
}

// small is a world with one worker, and with nothing in it.
func small(t *testing.T) world {
	t.Helper()
	return over(t, newStore(t, 4, 500), 1, 16, 0)
}

// done is a small world in which batches are complete.
func done(t *testing.T, batches ...[]api.Tx) world {
	t.Helper()
	w := small(t)
	w.posts(t, batches...)
	w.completes(t)
	return w
}

// posts puts batches on the board.
func (w world) posts(t *testing.T, batches ...[]api.Tx) {
	t.Helper()
	for _, list := range batches {
		if w.b.Post(list) == 0 {
			t.Fatalf("%v is refused", list)
		}
	}
}

// lays lets the workers take all their steps.
func (w world) lays() {
	for moved := true; moved; {
		moved = false
		for k := range w.workers {
			for w.b.Step(k) {
				moved = true
			}
		}
	}
}

// finish does a transaction, without filling its versions.
func (w world) finish(t *testing.T, at api.Place) {
	t.Helper()
	if !w.b.Claim(at, 0) {
		t.Fatalf("%v can't be claimed", at)
	}
	if e := w.b.Finish(at, api.Outcome{}); e != api.OK {
		t.Fatalf("%v can't be finished: %d", at, e)
	}
}

// completes lays all batches that may be laid, and does their transactions.
func (w world) completes(t *testing.T) {
	t.Helper()
	for w.lays(); w.b.Complete() < w.b.Laid(); w.lays() {
		for at, is := w.b.Next(); is; at, is = w.b.Next() {
			w.finish(t, at)
		}
	}
}

// chain is a key's versions as text, each by its place, the newest first.
func (w world) chain(k api.Key) string {
	var list []string
	for _, v := range w.st.Chain(k) {
		list = append(list, fmt.Sprintf("%d.%d", v.Batch, v.Index))
	}
	return strings.Join(list, ", ")
}

// stands looks for what a key's chain has.
func (w world) stands(t *testing.T, k api.Key, want string) {
	t.Helper()
	if got := w.chain(k); got != want {
		t.Fatalf("at %v there stand %q, not %q", k, got, want)
	}
}

// holds is how many holds stand on the board. It frees them, and puts none back.
func (w world) holds() int {
	n := 0
	for w.b.Free() {
		n++
	}
	return n
}

// takes lets the sweeper take steps, of which each must be there, and looks how many versions each one takes out.
func (w world) takes(t *testing.T, out ...int) {
	t.Helper()
	for i, n := range out {
		if !w.s.Ready() {
			t.Fatalf("step %d: not ready", i)
		}
		live, waiting := w.st.Live(), w.s.Waiting()
		if !w.s.Step() {
			t.Fatalf("step %d: false", i)
		}
		if live-w.st.Live() != n {
			t.Fatalf("step %d has taken out %d, not %d", i, live-w.st.Live(), n)
		}
		if ended := waiting - w.s.Waiting(); ended != 1-n {
			t.Fatalf("step %d has ended %d jobs", i, ended)
		}
	}
}

// waits looks that the sweeper is not ready, has so many jobs, and changes nothing by a step.
func (w world) waits(t *testing.T, jobs int) {
	t.Helper()
	before := w.told()
	if w.s.Ready() {
		t.Fatal("Ready: true")
	}
	if w.s.Step() {
		t.Fatal("Step: true")
	}
	if got := w.s.Waiting(); got != jobs {
		t.Fatalf("Waiting: %d, not %d", got, jobs)
	}
	if after := w.told(); after != before {
		t.Fatalf("a step in vain has made of\n%s\nthis:\n%s", before, after)
	}
}

// all is all keys that have versions, partition by partition.
func (w world) all() []api.Key {
	var list []api.Key
	for part := range w.st.Parts() {
		list = append(list, w.st.Keys(part)...)
	}
	return list
}

// numbers is the numbers of a key's versions, the newest first.
func (w world) numbers(k api.Key) []int {
	var list []int
	for v := w.st.Newest(k); v != 0; v = w.st.Before(v) {
		list = append(list, v)
	}
	return list
}

// told is the text of all that can be told of a world.
func (w world) told() string {
	var text strings.Builder
	fmt.Fprintln(&text, w.s.Waiting(), w.s.Ready(), w.b.Latest(), w.b.Laid(), w.b.Complete(), w.st.Live())
	for n := max(0, w.b.Complete()-2); n <= w.b.Latest()+2; n++ {
		size, e := w.b.Size(n)
		fmt.Fprint(&text, n, w.b.Held(n), size, e, " ")
		for i := range size {
			note, e := w.b.Note(p(n, i))
			fmt.Fprint(&text, w.b.Holder(p(n, i)), note, e, " ")
		}
	}
	for k := range w.workers {
		fmt.Fprint(&text, w.b.Ready(k), " ")
	}
	for _, k := range w.all() {
		fmt.Fprint(&text, k, w.numbers(k), w.st.Chain(k), "; ")
	}
	return text.String()
}

// Example 3.
func TestThreeSteps(t *testing.T) {
	w := done(t, rows(1), rows(1, 1))
	w.s.Order(2, nil)
	if w.s.Waiting() != 1 || !w.s.Ready() {
		t.Fatalf("Waiting: %d, Ready: %v", w.s.Waiting(), w.s.Ready())
	}
	w.stands(t, at(1), "2.1, 2.0, 1.0")
	w.takes(t, 1)
	w.stands(t, at(1), "2.1, 2.0")
	w.takes(t, 1)
	w.stands(t, at(1), "2.1")
	if got := w.numbers(at(1)); !slices.Equal(got, []int{3}) {
		t.Errorf("the version that stays has become %v", got)
	}
	w.takes(t, 0)
	w.stands(t, at(1), "2.1")
	w.waits(t, 0)
}

// Example 4.
func TestWaitsForItsFloor(t *testing.T) {
	w := done(t, rows(1))
	w.posts(t, rows(1, 1))
	w.s.Order(2, nil)
	w.posts(t, rows(1))
	w.waits(t, 1)
	w.lays()
	if w.b.Laid() != 2 || !w.b.Held(3) || w.b.Held(2) {
		t.Fatalf("Laid: %d, Held(3): %v, Held(2): %v", w.b.Laid(), w.b.Held(3), w.b.Held(2))
	}
	w.waits(t, 1)
	w.finish(t, p(2, 1))
	w.waits(t, 1)
	w.finish(t, p(2, 0))
	for _, out := range []int{1, 1, 0} {
		if w.b.Ready(0) || !w.b.Held(3) {
			t.Fatalf("with %d versions batch 3 is not held", w.st.Live())
		}
		w.takes(t, out)
	}
	if !w.b.Ready(0) || w.b.Held(3) {
		t.Fatal("behind the job batch 3 is held")
	}
	w.lays()
	w.stands(t, at(1), "3.0, 2.1")
	w.waits(t, 0)
}

// Example 5.
func TestFloors(t *testing.T) {
	w := done(t, rows(1), rows(1, 2))
	w.s.Order(99, nil)
	w.posts(t, rows(1)) // not complete: the floor is that of the Order
	w.takes(t, 1, 0)
	w.stands(t, at(1), "2.0")
	w.completes(t)
	w.stands(t, at(1), "3.0, 2.0")
	w.s.Order(-1, nil)
	w.takes(t, 0)
	w.stands(t, at(1), "3.0, 2.0")
	w.stands(t, at(2), "2.1")
}
