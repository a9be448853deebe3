package cc_test

import (
	"fmt"
	"slices"
	"strings"
	"testing"

	"prelude/api"
	"prelude/cc"
	"prelude/store"
)

// at is a key of table 0.
func at(row int64) api.Key { return api.Key{Row: row} }

// set is keys of table 0, as they are listed.
func set(rows ...int64) []api.Key {
	var list []api.Key
	for _, r := range rows {
		list = append(list, at(r))
	}
	return list
}

// run is so many keys of table 0, from a row on.
func run(from int64, n int) []api.Key {
	var list []api.Key
	for i := range n {
		list = append(list, at(from+int64(i)))
	}
	return list
}

// tx is a transaction by its reads and its writes.
func tx(reads, writes []api.Key) api.Tx { return api.Tx{Reads: reads, Writes: writes} }

// put is a transaction without reads.
func put(rows ...int64) api.Tx { return tx(nil, set(rows...)) }

// both is a transaction that reads and writes the same keys.
func both(rows ...int64) api.Tx { return tx(set(rows...), set(rows...)) }

// txs is a batch.
func txs(list ...api.Tx) []api.Tx { return list }

// p is a place.
func p(batch, index int) api.Place { return api.Place{Batch: batch, Index: index} }

// kept is a store without versions.
func kept(t *testing.T, parts, capacity int) *store.Store {
	t.Helper()
	st, e := store.New(parts, capacity)
	if e != api.OK {
		t.Fatalf("a store of %d, %d: %d", parts, capacity, e)
	}
	return st
}

// over is a board over a store.
func over(t *testing.T, st *store.Store, workers, ahead, latest int) *cc.Board {
	t.Helper()
	b, e := cc.New(st, workers, ahead, latest)
	if b == nil || e != api.OK {
		t.Fatalf("New(st, %d, %d, %d): %v, %d", workers, ahead, latest, b, e)
	}
	return b
}

// made is a board behind batch 0, over a store of its own.
func made(t *testing.T, parts, capacity, workers, ahead int) (*cc.Board, *store.Store) {
	t.Helper()
	st := kept(t, parts, capacity)
	return over(t, st, workers, ahead, 0), st
}

// posts puts a batch on the board, whose number must be n.
func posts(t *testing.T, b *cc.Board, n int, list ...api.Tx) {
	t.Helper()
	latest, laid := b.Latest(), b.Laid()
	if got := b.Post(list); got != n {
		t.Errorf("Post(%v): %d, not %d", list, got, n)
	}
	if latest+1 != n || b.Latest() != n || b.Laid() != laid {
		t.Errorf("Post(%v) has left Latest %d behind %d, Laid %d behind %d", list, b.Latest(), latest, b.Laid(), laid)
	}
	if size, e := b.Size(n); size != len(list) || e != api.OK {
		t.Errorf("Size(%d): %d, %d, not %d", n, size, e, len(list))
	}
}

// steps lets a worker take so many steps.
func steps(t *testing.T, b *cc.Board, w, n int) {
	t.Helper()
	for i := range n {
		if !b.Ready(w) || !b.Step(w) {
			t.Fatalf("worker %d takes no step behind %d of %d", w, i, n)
		}
	}
}

// waits looks that a worker is not ready, and that a step of it does nothing.
func waits(t *testing.T, b *cc.Board, st *store.Store, w int) {
	t.Helper()
	was := told(b, st)
	if b.Ready(w) || b.Step(w) {
		t.Errorf("worker %d is ready", w)
	}
	if is := told(b, st); is != was {
		t.Errorf("the step of worker %d has left %s, not %s", w, is, was)
	}
}

// lays lets the workers take steps in turn until none is ready, and tells how many they took.
func lays(b *cc.Board, workers int) int {
	n := 0
	for moved := true; moved; {
		moved = false
		for w := range workers {
			if b.Step(w) {
				moved = true
				n++
			}
		}
	}
	return n
}

// claims lets a hand claim a transaction.
func claims(t *testing.T, b *cc.Board, hand int, at api.Place) {
	t.Helper()
	if !b.Claim(at, hand) {
		t.Errorf("Claim(%v, %d): false", at, hand)
	}
	held(t, b, at, hand)
}

// held looks who has a transaction claimed.
func held(t *testing.T, b *cc.Board, at api.Place, want int) {
	t.Helper()
	if got := b.Holder(at); got != want {
		t.Errorf("Holder(%v): %d, not %d", at, got, want)
	}
}

// unclaimed looks that nobody gets a transaction.
func unclaimed(t *testing.T, b *cc.Board, at api.Place, hands ...int) {
	t.Helper()
	was := b.Holder(at)
	for _, hand := range hands {
		if b.Claim(at, hand) {
			t.Errorf("Claim(%v, %d): true", at, hand)
		}
	}
	held(t, b, at, was)
}

// finishes says that a transaction is done, and looks what is answered.
func finishes(t *testing.T, b *cc.Board, at api.Place, o api.Outcome, want api.Errno) {
	t.Helper()
	if e := b.Finish(at, o); e != want {
		t.Errorf("Finish(%v): %d, not %d", at, e, want)
	}
}

// does lets hand 0 do transactions, with nothing for an outcome.
func does(t *testing.T, b *cc.Board, places ...api.Place) {
	t.Helper()
	for _, at := range places {
		claims(t, b, 0, at)
		finishes(t, b, at, api.Outcome{}, api.OK)
	}
}

// next looks which transaction is the next one.
func next(t *testing.T, b *cc.Board, want api.Place) {
	t.Helper()
	if got, is := b.Next(); got != want || !is {
		t.Errorf("Next: %v, %v, not %v", got, is, want)
	}
}

// none looks that there is no next transaction.
func none(t *testing.T, b *cc.Board) {
	t.Helper()
	if got, is := b.Next(); got != (api.Place{}) || is {
		t.Errorf("Next: %v, %v, not nothing", got, is)
	}
}

// numbers looks at a board's three numbers.
func numbers(t *testing.T, b *cc.Board, latest, laid, complete int) {
	t.Helper()
	if b.Latest() != latest || b.Laid() != laid || b.Complete() != complete {
		t.Errorf("Latest %d, Laid %d, Complete %d, not %d, %d, %d", b.Latest(), b.Laid(), b.Complete(), latest, laid, complete)
	}
}

// notes looks at what is noted of a transaction.
func notes(t *testing.T, b *cc.Board, at api.Place, state int, reads, before, own []int) {
	t.Helper()
	n, e := b.Note(at)
	if e != api.OK || n.State != state || !slices.Equal(n.Reads, reads) || !slices.Equal(n.Before, before) || !slices.Equal(n.Own, own) {
		t.Errorf("Note(%v): %v, %d, not %d %v %v %v", at, n, e, state, reads, before, own)
	}
}

// nums is a list of numbers.
func nums(list ...int) []int { return list }

// away looks that a place is not there: what every call answers, and that nothing is done.
func away(t *testing.T, b *cc.Board, st *store.Store, at api.Place, want api.Errno) {
	t.Helper()
	was := told(b, st)
	unclaimed(t, b, at, 0, 7)
	held(t, b, at, -1)
	finishes(t, b, at, api.Outcome{User: 9}, want)
	if n, e := b.Note(at); e != want || fmt.Sprint(n) != fmt.Sprint(api.Note{}) {
		t.Errorf("Note(%v): %v, %d, not %d", at, n, e, want)
	}
	outcomeIs(t, b, at, api.Outcome{}, want)
	if is := told(b, st); is != was {
		t.Errorf("calls at %v have left %s, not %s", at, is, was)
	}
}

// outcomeIs looks at an outcome.
func outcomeIs(t *testing.T, b *cc.Board, at api.Place, want api.Outcome, code api.Errno) {
	t.Helper()
	if o, e := b.Outcome(at); e != code || fmt.Sprint(o) != fmt.Sprint(want) {
		t.Errorf("Outcome(%v): %v, %d, not %v, %d", at, o, e, want, code)
	}
}

// told is the text of all that a board tells, and of its store.
func told(b *cc.Board, st *store.Store) string {
	var s strings.Builder
	fmt.Fprint(&s, b.Latest(), b.Laid(), b.Complete())
	s.WriteString(fmt.Sprintln(b.Next()))
	for w := -1; w <= 8; w++ {
		fmt.Fprint(&s, b.Ready(w), " ")
	}
	for n := max(0, b.Complete()-20); n <= b.Latest()+2; n++ {
		size, e := b.Size(n)
		fmt.Fprintln(&s, "\n", n, b.Held(n), size, e)
		for i := -1; i <= size; i++ {
			fmt.Fprint(&s, b.Holder(p(n, i)), " ")
			s.WriteString(fmt.Sprintln(b.Note(p(n, i))))
			s.WriteString(fmt.Sprintln(b.Outcome(p(n, i))))
		}
	}
	for part := range st.Parts() {
		for _, k := range st.Keys(part) {
			fmt.Fprint(&s, k, st.Newest(k), st.Chain(k), "; ")
		}
	}
	fmt.Fprint(&s, st.Live(), st.Room())
	return s.String()
}

// two is the board of examples 1 and 2, both batches laid.
func two(t *testing.T) (*cc.Board, *store.Store) {
	t.Helper()
	b, st := made(t, 1, 8, 1, 2)
	posts(t, b, 1, put(1), put(2))
	steps(t, b, 0, 3)
	posts(t, b, 2, both(1, 2), both(1, 2))
	steps(t, b, 0, 9)
	return b, st
}

// Example 1.
func TestFirstBatch(t *testing.T) {
	b, st := made(t, 1, 8, 1, 2)
	posts(t, b, 1, put(1), put(2))
	if !b.Ready(0) || b.Ready(1) {
		t.Errorf("Ready(0): %v, Ready(1): %v", b.Ready(0), b.Ready(1))
	}
	for live := 1; live <= 2; live++ {
		steps(t, b, 0, 1)
		if st.Live() != live {
			t.Errorf("%d versions, not %d", st.Live(), live)
		}
		numbers(t, b, 1, 0, 0)
	}
	steps(t, b, 0, 1)
	waits(t, b, st, 0)
	numbers(t, b, 1, 1, 0)
	notes(t, b, p(1, 0), api.TxPosted, nil, nums(0), nums(1))
	notes(t, b, p(1, 1), api.TxPosted, nil, nums(0), nums(2))
}

// Example 2.
func TestSecondBatch(t *testing.T) {
	b, _ := two(t)
	notes(t, b, p(2, 1), api.TxPosted, nums(3, 4), nums(3, 4), nums(5, 6))
	notes(t, b, p(2, 0), api.TxPosted, nums(1, 2), nums(1, 2), nums(3, 4))
}

// Example 3.
func TestClaims(t *testing.T) {
	b, st := two(t)
	next(t, b, p(1, 0))
	claims(t, b, 0, p(1, 0))
	unclaimed(t, b, p(1, 0), 1)
	next(t, b, p(1, 1))
	finishes(t, b, p(1, 1), api.Outcome{}, api.ErrClaim)
	finishes(t, b, p(1, 0), api.Outcome{}, api.OK)
	held(t, b, p(1, 0), -1)
	numbers(t, b, 2, 2, 0)
	does(t, b, p(1, 1))
	numbers(t, b, 2, 2, 1)
	outcomeIs(t, b, p(2, 0), api.Outcome{}, api.ErrClaim)
	away(t, b, st, p(3, 0), api.ErrBatch)
	away(t, b, st, p(2, 2), api.ErrIndex)
}

// Example 4.
func TestAheadAndHold(t *testing.T) {
	b, st := made(t, 1, 8, 1, 1)
	posts(t, b, 1, put(1))
	posts(t, b, 2, put(1))
	steps(t, b, 0, 2)
	waits(t, b, st, 0)
	does(t, b, p(1, 0))
	steps(t, b, 0, 2)
	numbers(t, b, 2, 2, 1)

	b, st = made(t, 1, 8, 1, 2)
	posts(t, b, 1, put(1))
	b.Hold()
	posts(t, b, 2, put(1))
	steps(t, b, 0, 2)
	waits(t, b, st, 0)
	if b.Held(1) || !b.Held(2) {
		t.Errorf("Held(1): %v, Held(2): %v", b.Held(1), b.Held(2))
	}
	if !b.Free() {
		t.Error("Free: false")
	}
	steps(t, b, 0, 2)
}

// Example 5.
func TestTwoWorkers(t *testing.T) {
	probe := kept(t, 2, 8)
	first, second := at(0), at(1)
	for probe.Part(first) != 0 {
		first.Row++
	}
	for probe.Part(second) != 1 {
		second.Row++
	}
	ks := []api.Key{first, second}
	if second.Row < first.Row {
		slices.Reverse(ks)
	}
	x := tx(ks, ks)
	for _, order := range [][]int{{0, 0, 0, 0, 0, 1, 1, 1, 1, 1}, {1, 1, 1, 1, 1, 0, 0, 0, 0, 0}, {0, 1, 0, 1, 0, 1, 0, 1, 0, 1}, {1, 0, 0, 1, 1, 0, 1, 1, 0, 0}} {
		b, st := made(t, 2, 8, 2, 1)
		posts(t, b, 1, x, x)
		for _, w := range order {
			numbers(t, b, 1, 0, 0)
			steps(t, b, w, 1)
		}
		numbers(t, b, 1, 1, 0)
		waits(t, b, st, 0)
		waits(t, b, st, 1)
		early, _ := b.Note(p(1, 0))
		late, _ := b.Note(p(1, 1))
		for i, k := range ks {
			if early.Reads[i] != 0 || early.Before[i] != 0 || late.Reads[i] != early.Own[i] || late.Before[i] != early.Own[i] || st.Newest(k) != late.Own[i] || st.Before(late.Own[i]) != early.Own[i] {
				t.Errorf("by %v: %v, %v", order, early, late)
			}
		}
	}
}

// Example 6.
func TestForgottenAndLater(t *testing.T) {
	b, st := two(t)
	does(t, b, p(1, 0), p(1, 1))
	b.Forget(1)
	if size, e := b.Size(1); size != 0 || e != api.ErrBatch {
		t.Errorf("Size(1): %d, %d", size, e)
	}
	away(t, b, st, p(1, 0), api.ErrBatch)

	b = over(t, kept(t, 1, 8), 1, 1, 7)
	numbers(t, b, 7, 7, 7)
	posts(t, b, 8)
	numbers(t, b, 8, 7, 7)
	steps(t, b, 0, 1)
	numbers(t, b, 8, 8, 8)
}

// Example 7.
func TestRefused(t *testing.T) {
	b, st := made(t, 1, 8, 1, 2)
	if n := b.Post(txs(put(2, 1))); n != 0 || b.Latest() != 0 {
		t.Errorf("Post: %d, Latest %d", n, b.Latest())
	}
	for _, c := range []struct {
		workers, ahead, latest int
		want                   api.Errno
	}{{0, 0, -1, api.ErrWorkers}, {1, 17, -1, api.ErrAhead}, {1, 1, -1, api.ErrBatch}} {
		if b, e := cc.New(st, c.workers, c.ahead, c.latest); b != nil || e != c.want {
			t.Errorf("New(%v): %v, %d", c, b, e)
		}
	}
}
