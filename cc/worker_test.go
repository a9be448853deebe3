package cc_test

import (
	"testing"

	"prelude/api"
	"prelude/cc"
	"prelude/keys"
	"prelude/store"
)

// 11.5: a worker's acts stand in the order of the transactions, the reads of each ahead of its writes.
func TestActs(t *testing.T) {
	b, st := made(t, 1, 20, 1, 1)
	posts(t, b, 1, tx(set(1, 2), set(1)), api.Tx{}, tx(set(1), set(1, 3)), put(2))
	for i, live := range []int{0, 0, 1, 1, 2, 3, 4, 4} {
		numbers(t, b, 1, 0, 0)
		away(t, b, st, p(1, 0), api.ErrBatch)
		steps(t, b, 0, 1)
		if st.Live() != live {
			t.Errorf("behind step %d there are %d versions, not %d", i+1, st.Live(), live)
		}
	}
	numbers(t, b, 1, 1, 0)
	waits(t, b, st, 0)
	notes(t, b, p(1, 0), api.TxPosted, nums(0, 0), nums(0), nums(1))
	notes(t, b, p(1, 1), api.TxPosted, nil, nil, nil)
	notes(t, b, p(1, 2), api.TxPosted, nums(1), nums(1, 0), nums(2, 3))
	notes(t, b, p(1, 3), api.TxPosted, nil, nums(0), nums(4))
	for k, places := range map[int64][]int{1: {2, 0}, 2: {3}, 3: {2}} {
		chain := st.Chain(at(k))
		if len(chain) != len(places) {
			t.Fatalf("key %d has %v", k, chain)
		}
		for i, index := range places {
			if chain[i] != (api.Version{Batch: 1, Index: index}) {
				t.Errorf("key %d has %v", k, chain)
			}
		}
	}
}

// 11.5: what is newest is asked at each act anew: others fill versions, and take them out.
func TestNewestNow(t *testing.T) {
	st := kept(t, 1, 20)
	for row := int64(1); row <= 3; row++ {
		st.Insert(at(row), 1, 0) // 1, 2, 3
	}
	st.Insert(at(1), 2, 0) // 4
	b := over(t, st, 1, 1, 2)
	posts(t, b, 3, tx(set(1, 2, 3), set(1, 2, 3)), both(1))
	steps(t, b, 0, 1)
	st.Remove(4) // key 1 is read
	st.Remove(2) // key 2 is not
	steps(t, b, 0, 2)
	st.Remove(1)
	steps(t, b, 0, 2)
	st.Remove(3)
	st.Fill(5, api.Cell{Is: true, Value: 7})
	st.Remove(6)
	steps(t, b, 0, 1)
	notThere(t, st, 1, 2, 3, 4, 6)
	steps(t, b, 0, 1)
	st.Remove(5)
	steps(t, b, 0, 2)
	notes(t, b, p(3, 0), api.TxPosted, nums(4, 0, 3), nums(0, 0, 0), nums(5, 6, 7))
	notes(t, b, p(3, 1), api.TxPosted, nums(5), nums(0), nums(8))
}

// notThere looks that numbers are no version's.
func notThere(t *testing.T, st *store.Store, list ...int) {
	t.Helper()
	for _, v := range list {
		if _, e := st.Look(v); e != api.ErrRef {
			t.Errorf("version %d is there", v)
		}
	}
}

// 11.5: in a full store a worker does not write; it reads, and it says.
func TestRoom(t *testing.T) {
	b, st := made(t, 1, 2, 1, 4)
	posts(t, b, 1, both(1), both(1), tx(set(1), nil))
	steps(t, b, 0, 4)
	steps(t, b, 0, 2)
	numbers(t, b, 1, 1, 0)
	posts(t, b, 2, tx(set(1), set(2, 3)))
	steps(t, b, 0, 1)
	waits(t, b, st, 0)
	st.Fill(1, api.Cell{})
	waits(t, b, st, 0)
	st.Remove(1)
	steps(t, b, 0, 1)
	waits(t, b, st, 0)
	if st.Newest(at(2)) != 3 || st.Newest(at(3)) != 0 {
		t.Errorf("%d, %d", st.Newest(at(2)), st.Newest(at(3)))
	}
	st.Remove(2)
	steps(t, b, 0, 2)
	waits(t, b, st, 0)
	notes(t, b, p(2, 0), api.TxPosted, nums(2), nums(0, 0), nums(3, 4))
	numbers(t, b, 2, 2, 0)
}

// 11.5: another worker may take the room that one was ready for.
func TestRoomForOne(t *testing.T) {
	for first := range 2 {
		b, st := made(t, 2, 1, 2, 1)
		posts(t, b, 1, tx(nil, oneEach(t, 2)))
		second := 1 - first
		if !b.Ready(0) || !b.Ready(1) {
			t.Error("one of them is not ready")
		}
		steps(t, b, first, 1)
		waits(t, b, st, second)
		steps(t, b, first, 1)
		waits(t, b, st, first)
		st.Remove(1)
		steps(t, b, second, 2)
		numbers(t, b, 1, 1, 0)
	}
}

// oneEach is a set with a key of each of so many partitions.
func oneEach(t *testing.T, parts int) []api.Key {
	t.Helper()
	var list []api.Key
	for part := range parts {
		k := at(0)
		for of(k, parts) != part {
			k.Row++
		}
		list = append(list, k)
	}
	list, e := keys.Sort(list)
	if len(list) != parts || e != api.OK {
		t.Fatalf("%v, %d", list, e)
	}
	return list
}

// of is a key's partition of so many.
func of(k api.Key, parts int) int {
	part, _ := keys.Partition(k, parts)
	return part
}

// 11.5: each worker has the keys of its own partitions, by the remainder; one without a partition has nothing but to say.
func TestOwnKeys(t *testing.T) {
	for _, c := range []struct{ parts, workers int }{{1, 1}, {1, 3}, {2, 2}, {5, 2}, {7, 3}, {3, 7}, {8, 4}, {256, 64}, {4, 64}} {
		b, st := made(t, c.parts, 2000, c.workers, 1)
		var list []api.Tx
		own := make([]int, c.workers)
		for i := range 20 {
			x := tx(run(int64(i*3), i%17), run(int64(i*5-7), (i*7)%17))
			for _, k := range append(append([]api.Key{}, x.Reads...), x.Writes...) {
				own[of(k, c.parts)%c.workers]++
			}
			list = append(list, x)
		}
		posts(t, b, 1, list...)
		for w := c.workers - 1; w >= 0; w-- {
			numbers(t, b, 1, 0, 0)
			steps(t, b, w, own[w]+1)
			waits(t, b, st, w)
		}
		numbers(t, b, 1, 1, 0)
	}
}

// 11.5, 11.10: a worker may be at as many batches behind the complete ones as ahead says, and no more; it does not wait for the other workers.
func TestAhead(t *testing.T) {
	for ahead := 1; ahead <= api.MaxAhead; ahead++ {
		b, st := made(t, 2, 100, 2, ahead)
		for n := 1; n <= 40; n++ {
			posts(t, b, n, tx(nil, oneEach(t, 2)))
		}
		steps(t, b, 1, 2*ahead)
		waits(t, b, st, 1)
		numbers(t, b, 40, 0, 0)
		steps(t, b, 0, 2*ahead)
		waits(t, b, st, 0)
		numbers(t, b, 40, ahead, 0)
		for n := ahead; n > 1; n-- {
			does(t, b, p(n, 0))
			waits(t, b, st, 0)
		}
		does(t, b, p(1, 0))
		numbers(t, b, 40, ahead, ahead)
		steps(t, b, 0, 2*ahead)
		waits(t, b, st, 0)
		steps(t, b, 1, 2)
		numbers(t, b, 40, ahead+1, ahead)
		does(t, b, p(ahead+1, 0))
		steps(t, b, 0, 2)
		waits(t, b, st, 0)
	}
}

// 11.10: a batch takes as many steps as it has reads and writes, and one for each worker.
func TestStepsOfBatch(t *testing.T) {
	for _, workers := range []int{1, 2, 5, 64} {
		b, _ := made(t, 16, 1000, workers, 1)
		for n, c := range []struct {
			list []api.Tx
			want int
		}{
			{nil, 0},
			{txs(api.Tx{}, api.Tx{}), 0},
			{txs(put(1)), 1},
			{txs(tx(set(1, 2, 3), nil)), 3},
			{txs(both(1, 2), both(2, 3, 4), put(9), api.Tx{}), 11},
			{txs(tx(run(0, 16), run(9, 16)), both(0)), 34},
		} {
			posts(t, b, n+1, c.list...)
			if got := lays(b, workers); got != c.want+workers || b.Laid() != n+1 {
				t.Errorf("batch %d by %d workers: %d steps, Laid is %d", n+1, workers, got, b.Laid())
			}
			for i := range c.list {
				does(t, b, p(n+1, i))
			}
		}
	}
}

// 11.10: a worker that is done with a batch takes its next one, while another one has not begun the first.
func TestFarApart(t *testing.T) {
	b, st := made(t, 2, 100, 2, 3)
	set := oneEach(t, 2)
	for n := 1; n <= 3; n++ {
		posts(t, b, n, tx(set, set))
	}
	steps(t, b, 0, 9)
	numbers(t, b, 3, 0, 0)
	none(t, b)
	for n := 1; n <= 3; n++ {
		steps(t, b, 1, 2)
		numbers(t, b, 3, n-1, 0)
		steps(t, b, 1, 1)
		numbers(t, b, 3, n, 0)
		next(t, b, p(1, 0))
	}
	for n := 1; n <= 3; n++ {
		note, _ := b.Note(p(n, 0))
		for i, k := range set {
			if n == 3 && st.Newest(k) != note.Own[i] {
				t.Errorf("the newest version of %v is %d", k, st.Newest(k))
			}
			if note.Before[i] != st.Before(note.Own[i]) || note.Reads[i] != note.Before[i] {
				t.Errorf("Note(%v): %v", p(n, 0), note)
			}
		}
	}
}

// 11.9: versions that stood in the store at the beginning are read, and stand ahead of the new ones.
func TestStoodThere(t *testing.T) {
	st := kept(t, 1, 8)
	st.Insert(at(1), 3, 5)
	st.Insert(at(2), 4, 63)
	st.Insert(at(1), 4, 0)
	b := over(t, st, 1, 1, 4)
	posts(t, b, 5, both(1, 2, 3), both(1, 2, 3))
	if n := lays(b, 1); n != 11 { // one write has no room
		t.Errorf("%d steps", n)
	}
	st.Remove(1)
	steps(t, b, 0, 2)
	notes(t, b, p(5, 0), api.TxPosted, nums(3, 2, 0), nums(3, 2, 0), nums(4, 5, 6))
	notes(t, b, p(5, 1), api.TxPosted, nums(4, 5, 6), nums(4, 5, 6), nums(7, 8, 9))
}

// 11.10: as long as there is something to lay and room for it, a worker is ready.
func TestSomebodyIsReady(t *testing.T) {
	b, st := made(t, 5, 40, 3, 2)
	for n := 1; n <= 6; n++ {
		posts(t, b, n, both(int64(n), int64(n+1)), both(int64(n+2)))
	}
	for b.Complete() < 6 {
		if !ready(b, 3) {
			for n := b.Complete() + 1; n <= b.Laid(); n++ {
				does(t, b, p(n, 0), p(n, 1))
			}
		}
		if b.Laid() < 6 && !ready(b, 3) {
			t.Fatalf("at %d of %d nobody is ready, and there is room for %d", b.Laid(), b.Latest(), st.Room())
		}
		for w := range 3 {
			b.Step(w)
		}
	}
}

// ready tells whether one of the workers is ready.
func ready(b *cc.Board, workers int) bool {
	for w := range workers {
		if b.Ready(w) {
			return true
		}
	}
	return false
}
