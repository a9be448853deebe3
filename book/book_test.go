package book_test

import (
	"fmt"
	"math"
	"slices"
	"strings"
	"testing"

	"prelude/api"
	"prelude/book"
)

// at is a key of table 0.
func at(row int64) api.Key { return api.Key{Row: row} }

// set is keys of table 0, as they are listed.
func set(rows ...int64) []api.Key {
	var list []api.Key
	for _, r := range rows {
		list = append(list, at(r))
	}
	return list
}

// run is so many keys of table 0, from a row on.
func run(from int64, n int) []api.Key {
	var list []api.Key
	for i := range n {
		list = append(list, at(from+int64(i)))
	}
	return list
}

// writes is a batch's lists of writes.
func writes(sets ...[]api.Key) [][]api.Key { return sets }

// same is a batch of so many transactions, each with that set of writes.
func same(n int, s []api.Key) [][]api.Key { return slices.Repeat([][]api.Key{s}, n) }

// p is a place.
func p(batch, index int) api.Place { return api.Place{Batch: batch, Index: index} }

// noKeys is what is no key.
var noKeys = []api.Key{{Table: -1}, {Table: -1, Row: 1}, {Table: api.MaxTable + 1}, {Table: math.MinInt}, {Table: math.MaxInt, Row: math.MaxInt64}}

// made is a book without batches.
func made(t *testing.T, capacity int) *book.Book {
	t.Helper()
	b, e := book.New(capacity)
	if b == nil || e != api.OK {
		t.Fatalf("New(%d): %v, %d", capacity, b, e)
	}
	return b
}

// two is a book of capacity 8 behind the first two batches of example 1.
func two(t *testing.T) *book.Book {
	t.Helper()
	b := made(t, 8)
	admits(t, b, 1, writes(set(1), set(2)))
	admits(t, b, 2, writes(set(1, 2), set(1, 2)))
	return b
}

// admits lets a batch in, whose number must be n.
func admits(t *testing.T, b *book.Book, n int, w [][]api.Key) {
	t.Helper()
	if got, e := b.Admit(w); got != n || e != api.OK {
		t.Errorf("Admit(%v): %d, %d, not %d", w, got, e, n)
	}
}

// refuses holds an Admit against the error that it must answer, and looks that nothing has changed.
func refuses(t *testing.T, b *book.Book, w [][]api.Key, want api.Errno) {
	t.Helper()
	was := told(b)
	if got, e := b.Admit(w); got != 0 || e != want {
		t.Errorf("Admit(%v): %d, %d, not error %d", w, got, e, want)
	}
	if is := told(b); is != was {
		t.Errorf("Admit(%v) has left %s, not %s", w, is, was)
	}
}

// pin holds a Pin against the answer that it must have, and looks that it has changed nothing else than it says.
func pin(t *testing.T, b *book.Book, n int, want api.Errno) {
	t.Helper()
	pins(t, b, "Pin", b.Pin, n, want, 1)
}

// unpin is pin for an Unpin.
func unpin(t *testing.T, b *book.Book, n int, want api.Errno) {
	t.Helper()
	pins(t, b, "Unpin", b.Unpin, n, want, -1)
}

// pins holds a call that changes the count of a batch's pins against its answer, and against what it may change.
func pins(t *testing.T, b *book.Book, name string, call func(int) api.Errno, n int, want api.Errno, by int) {
	t.Helper()
	counts, was := countsOf(b), toldBesidePins(b)
	if e := call(n); e != want {
		t.Errorf("%s(%d): %d, not %d", name, n, e, want)
	}
	if want == api.OK {
		counts[n] += by
		if counts[n] == 0 {
			delete(counts, n)
		}
	}
	if got := fmt.Sprint(countsOf(b)); got != fmt.Sprint(counts) {
		t.Errorf("%s(%d) has left the pins %s, not %v", name, n, got, counts)
	}
	if is := toldBesidePins(b); is != was {
		t.Errorf("%s(%d) has left %s, not %s", name, n, is, was)
	}
}

// countsOf is the counts of the pinned batches.
func countsOf(b *book.Book) map[int]int {
	counts := make(map[int]int)
	for _, pin := range b.Pins() {
		counts[pin.Batch] = pin.Count
	}
	return counts
}

// collects holds a Collect against how many versions it must let go, and looks at the charge and the floor.
func collects(t *testing.T, b *book.Book, want int) {
	t.Helper()
	charge, latest, pinned := b.Charge(), b.Latest(), fmt.Sprint(b.Pins())
	if got := b.Collect(); got != want {
		t.Errorf("Collect() is %d, not %d", got, want)
	}
	if b.Charge() != charge-want || b.Floor() != latest || b.Latest() != latest || fmt.Sprint(b.Pins()) != pinned {
		t.Errorf("Collect() has left the charge %d of %d, floor %d, latest %d, pins %v", b.Charge(), charge, b.Floor(), b.Latest(), b.Pins())
	}
}

// has holds a key's versions against what they must be.
func has(t *testing.T, b *book.Book, k api.Key, want ...api.Place) {
	t.Helper()
	if got := b.Versions(k); !slices.Equal(got, want) {
		t.Errorf("Versions(%v): %v, not %v", k, got, want)
	}
}

// numbers holds the numbers that a book tells of itself against what they must be.
func numbers(t *testing.T, b *book.Book, latest, floor, charge int) {
	t.Helper()
	if b.Latest() != latest || b.Floor() != floor || b.Charge() != charge {
		t.Errorf("Latest %d, Floor %d, Charge %d, not %d, %d, %d", b.Latest(), b.Floor(), b.Charge(), latest, floor, charge)
	}
}

// toldBesidePins is the text of all that a book tells but its pins.
func toldBesidePins(b *book.Book) string {
	var s strings.Builder
	fmt.Fprint(&s, b.Capacity(), b.Charge(), b.Latest(), b.Floor())
	for _, k := range b.Keys() {
		fmt.Fprint(&s, "; ", k, b.Versions(k))
	}
	return s.String()
}

// told is the text of all that a book tells.
func told(b *book.Book) string { return fmt.Sprint(b.Pins(), toldBesidePins(b)) }

// Example 1.
func TestDoor(t *testing.T) {
	b := two(t)
	numbers(t, b, 2, 0, 6)
	has(t, b, at(1), p(1, 0), p(2, 0), p(2, 1))
	refuses(t, b, writes(set(1), set(2), set(1)), api.ErrRoom)
	admits(t, b, 3, writes(set(3, 4)))
	numbers(t, b, 3, 0, 8)
	admits(t, b, 4, nil)
	admits(t, b, 5, writes(nil))
	refuses(t, b, writes(set(1)), api.ErrRoom)
	numbers(t, b, 5, 0, 8)
	has(t, b, at(2), p(1, 1), p(2, 0), p(2, 1))
	has(t, b, at(3), p(3, 0))
	has(t, b, at(4), p(3, 0))
}

// Example 2.
func TestWrongForm(t *testing.T) {
	b := made(t, 8)
	refuses(t, b, writes(set(2, 1)), api.ErrSet)
	refuses(t, b, writes(set(1, 1)), api.ErrSet)
	refuses(t, b, make([][]api.Key, 65), api.ErrTxs)
	refuses(t, b, writes(run(1, 17)), api.ErrWrites)
	refuses(t, b, writes(make([]api.Key, 17)), api.ErrWrites)
	admits(t, b, 1, nil)
}

// Example 3.
func TestCollectAll(t *testing.T) {
	b := two(t)
	collects(t, b, 4)
	numbers(t, b, 2, 2, 2)
	has(t, b, at(1), p(2, 1))
	collects(t, b, 0)
	pin(t, b, 1, api.ErrFloor)
	pin(t, b, 2, api.OK)
	pin(t, b, 3, api.ErrBatch)
	pin(t, b, -1, api.ErrBatch)
	pin(t, b, 0, api.ErrFloor)
}

// Example 4.
func TestCollectPinned(t *testing.T) {
	b := two(t)
	pin(t, b, 1, api.OK)
	pin(t, b, 1, api.OK)
	pin(t, b, 0, api.OK)
	collects(t, b, 2)
	has(t, b, at(1), p(1, 0), p(2, 1))
	if got := b.Pins(); !slices.Equal(got, []api.Pin{{Batch: 0, Count: 1}, {Batch: 1, Count: 2}}) {
		t.Errorf("Pins: %v", got)
	}
	unpin(t, b, 1, api.OK)
	collects(t, b, 0)
	unpin(t, b, 1, api.OK)
	unpin(t, b, 1, api.ErrPin)
	collects(t, b, 2)
	pin(t, b, 1, api.ErrFloor)
	pin(t, b, 0, api.OK)
}

// DOC.md's examples 2 to 7 of the whole, as far as the door goes.
func TestWhole(t *testing.T) {
	both, three := set(1, 2), writes(set(1), set(2), set(1, 2))
	b := made(t, 8)
	admits(t, b, 1, writes(set(1), set(2)))
	numbers(t, b, 1, 0, 2)
	admits(t, b, 2, writes(both, both))
	numbers(t, b, 2, 0, 6)
	refuses(t, b, three, api.ErrRoom)
	admits(t, b, 3, writes(set(1)))

	b = two(t)
	collects(t, b, 4)
	admits(t, b, 3, three)

	b = two(t)
	pin(t, b, 1, api.OK)
	collects(t, b, 2)
	has(t, b, at(1), p(1, 0), p(2, 1))
	has(t, b, at(2), p(1, 1), p(2, 1))
	pin(t, b, 1, api.OK)
	pin(t, b, 0, api.ErrFloor)
	pin(t, b, 2, api.OK)
	pin(t, b, 3, api.ErrBatch)
	unpin(t, b, 2, api.OK)
	unpin(t, b, 1, api.OK)
	unpin(t, b, 1, api.OK)
	collects(t, b, 2)
}

// 10.1: the capacities that there may be, and no others; a new book is empty.
func TestNew(t *testing.T) {
	for _, capacity := range []int{math.MinInt, -api.MaxCapacity, -1, 0, api.MaxCapacity + 1, 1 << 32, 1<<32 + 1, math.MaxInt} {
		if b, e := book.New(capacity); b != nil || e != api.ErrCapacity {
			t.Errorf("New(%d): %v, %d", capacity, b, e)
		}
	}
	for _, capacity := range []int{1, 2, 100, api.MaxCapacity - 1, api.MaxCapacity} {
		b := made(t, capacity)
		numbers(t, b, 0, 0, 0)
		if b.Capacity() != capacity || len(b.Pins()) != 0 || len(b.Keys()) != 0 {
			t.Errorf("New(%d): %s", capacity, told(b))
		}
		has(t, b, at(0))
		collects(t, b, 0)
		unpin(t, b, 0, api.ErrPin)
		pin(t, b, 0, api.OK)
		pin(t, b, 1, api.ErrBatch)
	}
}

// 10.3: as many transactions and keys as there may be, and one more.
func TestAdmitLimits(t *testing.T) {
	b := made(t, api.MaxCapacity)
	admits(t, b, 1, same(64, run(-8, 16)))
	numbers(t, b, 1, 0, 1024)
	for row := int64(-8); row < 8; row++ {
		var want []api.Place
		for i := range 64 {
			want = append(want, p(1, i))
		}
		has(t, b, at(row), want...)
	}
	refuses(t, b, same(65, run(-8, 16)), api.ErrTxs)
	refuses(t, b, same(65, nil), api.ErrTxs)
	refuses(t, b, same(1000, nil), api.ErrTxs)
	refuses(t, b, writes(nil, run(0, 17)), api.ErrWrites)
	refuses(t, b, writes(run(0, 1000)), api.ErrWrites)
	admits(t, b, 2, same(64, nil))
	admits(t, b, 3, writes(run(0, 16), nil, run(0, 16)))
	has(t, b, at(15), p(3, 0), p(3, 2))
}

// 10.3: of a batch's lists each must be a set.
func TestAdmitSets(t *testing.T) {
	b := made(t, 100)
	for _, k := range noKeys {
		refuses(t, b, writes([]api.Key{k}), api.ErrSet)
		refuses(t, b, writes(set(1), nil, []api.Key{at(1), k}), api.ErrSet)
		refuses(t, b, writes([]api.Key{k, at(1)}), api.ErrSet)
	}
	for _, l := range [][]api.Key{set(0, 0), set(1, 2, 2), set(1, 3, 2), set(math.MaxInt64, math.MinInt64), {{Table: 1}, {Row: 1}}, {{Table: 1, Row: 1}, {Table: 1}}} {
		refuses(t, b, writes(l), api.ErrSet)
		refuses(t, b, writes(set(1), l), api.ErrSet)
		refuses(t, b, append(same(63, set(1)), l), api.ErrSet)
	}
	edges := []api.Key{{Row: math.MinInt64}, {Row: -1}, {}, {Row: math.MaxInt64}, {Table: 1, Row: math.MinInt64}, {Table: api.MaxTable, Row: math.MaxInt64}}
	admits(t, b, 1, writes(edges, edges[1:5]))
	if got := b.Keys(); !slices.Equal(got, edges) {
		t.Errorf("Keys: %v", got)
	}
	numbers(t, b, 1, 0, 10)
}

// 10.3: the first error that applies, list by list; the form is asked ahead of the number, and that ahead of the room.
func TestAdmitOrder(t *testing.T) {
	long, wrong := run(0, 17), set(2, 1)
	last, e := book.Restore(1, api.Snapshot{Latest: api.MaxNumber, Chains: []api.Chain{{Versions: []api.Stamp{{Batch: 1}}}}})
	if e != api.OK {
		t.Fatalf("Restore: %d", e)
	}
	full := made(t, 1)
	admits(t, full, 1, writes(set(1)))
	for b, want := range map[*book.Book]api.Errno{last: api.ErrLast, full: api.ErrRoom} {
		refuses(t, b, same(65, long), api.ErrTxs)
		refuses(t, b, same(65, wrong), api.ErrTxs)
		refuses(t, b, writes(long, wrong), api.ErrWrites)
		refuses(t, b, writes(wrong, long), api.ErrSet)
		refuses(t, b, writes(set(1), wrong, long), api.ErrSet)
		refuses(t, b, writes(set(1), set(1), long, wrong), api.ErrWrites)
		refuses(t, b, writes(slices.Repeat(wrong, 9)), api.ErrWrites)
		refuses(t, b, writes(set(1)), want)
		refuses(t, b, writes(set(1), set(2)), want)
	}
	refuses(t, last, nil, api.ErrLast)
	refuses(t, last, writes(nil), api.ErrLast)
	admits(t, full, 2, nil)
}

// 10.3: the last number that there is.
func TestLastNumber(t *testing.T) {
	b, e := book.Restore(4, api.Snapshot{Latest: api.MaxNumber - 2})
	if e != api.OK {
		t.Fatalf("Restore: %d", e)
	}
	admits(t, b, api.MaxNumber-1, writes(set(1)))
	pin(t, b, api.MaxNumber, api.ErrBatch)
	admits(t, b, api.MaxNumber, writes(set(1), set(1)))
	refuses(t, b, nil, api.ErrLast)
	refuses(t, b, writes(run(0, 5)), api.ErrLast)
	has(t, b, at(1), p(api.MaxNumber-1, 0), p(api.MaxNumber, 0), p(api.MaxNumber, 1))
	pin(t, b, api.MaxNumber, api.OK)
	pin(t, b, api.MaxNumber+1, api.ErrBatch)
	collects(t, b, 2)
	has(t, b, at(1), p(api.MaxNumber, 1))
	refuses(t, b, nil, api.ErrLast)
}

// 10.4: what may be pinned: what is not below the floor and not above the latest batch, and what is pinned already.
func TestPinBounds(t *testing.T) {
	b := made(t, 8)
	for n := range 10 {
		admits(t, b, n+1, nil)
	}
	pin(t, b, 0, api.OK)
	pin(t, b, 3, api.OK)
	pin(t, b, 10, api.OK)
	collects(t, b, 0)
	for range 5 {
		admits(t, b, b.Latest()+1, nil)
	}
	for n := -2; n <= 17; n++ {
		want := api.OK
		if n < 0 || n > 15 {
			want = api.ErrBatch
		} else if n < 10 && n != 0 && n != 3 {
			want = api.ErrFloor
		}
		pin(t, b, n, want)
	}
	for _, n := range []int{math.MinInt, -api.MaxNumber, api.MaxNumber, 1 << 32, math.MaxInt} {
		pin(t, b, n, api.ErrBatch)
		unpin(t, b, n, api.ErrPin)
	}
	unpin(t, b, 3, api.OK)
	pin(t, b, 3, api.OK)
	unpin(t, b, 3, api.OK)
	unpin(t, b, 3, api.OK)
	pin(t, b, 3, api.ErrFloor)
	unpin(t, b, 3, api.ErrPin)
	unpin(t, b, 12, api.OK)
	pin(t, b, 12, api.OK)
}

// 10.4: as many pinned batches as there may be; what is pinned may be pinned again, and what lies below the floor is told first.
func TestPinsLimit(t *testing.T) {
	b := made(t, 8)
	for n := range 50 {
		admits(t, b, n+1, nil)
	}
	for n := range 10 {
		pin(t, b, n, api.OK)
	}
	collects(t, b, 0)
	for range 30 {
		admits(t, b, b.Latest()+1, nil)
	}
	for n := 50; n < 72; n++ {
		pin(t, b, n, api.OK)
	}
	pin(t, b, 72, api.ErrPins)
	pin(t, b, 80, api.ErrPins)
	pin(t, b, 81, api.ErrBatch)
	pin(t, b, -1, api.ErrBatch)
	pin(t, b, 30, api.ErrFloor)
	pin(t, b, 5, api.OK)
	pin(t, b, 71, api.OK)
	unpin(t, b, 71, api.OK)
	pin(t, b, 72, api.ErrPins)
	unpin(t, b, 71, api.OK)
	pin(t, b, 72, api.OK)
	pin(t, b, 71, api.ErrPins)
	unpin(t, b, 0, api.OK)
	pin(t, b, 0, api.ErrFloor)
	pin(t, b, 71, api.OK)
}

// 10.4: the greatest count of pins.
func TestPinCount(t *testing.T) {
	b, e := book.Restore(8, api.Snapshot{Latest: 5, Pins: []api.Pin{{Batch: 2, Count: api.MaxNumber - 1}, {Batch: 4, Count: api.MaxNumber}}})
	if e != api.OK {
		t.Fatalf("Restore: %d", e)
	}
	pin(t, b, 4, api.ErrPins)
	pin(t, b, 2, api.OK)
	pin(t, b, 2, api.ErrPins)
	unpin(t, b, 4, api.OK)
	pin(t, b, 4, api.OK)
	pin(t, b, 4, api.ErrPins)
	pin(t, b, 5, api.OK)
}

// 10.5: what a collect keeps: of versions of one batch the last one; for several pins one version; none for a pin ahead of all.
func TestCollectKeeps(t *testing.T) {
	chain := [][][]api.Key{
		nil,                                   // 1
		writes(set(1), set(2), set(1)),        // 2
		writes(set(1)),                        // 3
		writes(set(2)),                        // 4
		writes(set(1), nil, set(1), set(3)),   // 5
		nil,                                   // 6
		writes(nil, set(1)),                   // 7
		writes(set(2, 3), set(2, 3), set(40)), // 8
	}
	for _, c := range []struct {
		pins []int
		one  []api.Place
		two  []api.Place
		gone int
	}{
		{nil, []api.Place{p(7, 1)}, []api.Place{p(8, 1)}, 10},
		{[]int{0, 1}, []api.Place{p(7, 1)}, []api.Place{p(8, 1)}, 10},
		{[]int{2}, []api.Place{p(2, 2), p(7, 1)}, []api.Place{p(2, 1), p(8, 1)}, 8},
		{[]int{3}, []api.Place{p(3, 0), p(7, 1)}, []api.Place{p(2, 1), p(8, 1)}, 8},
		{[]int{4}, []api.Place{p(3, 0), p(7, 1)}, []api.Place{p(4, 0), p(8, 1)}, 8},
		{[]int{3, 4}, []api.Place{p(3, 0), p(7, 1)}, []api.Place{p(2, 1), p(4, 0), p(8, 1)}, 7},
		{[]int{5, 6}, []api.Place{p(5, 2), p(7, 1)}, []api.Place{p(4, 0), p(8, 1)}, 7},
		{[]int{7}, []api.Place{p(7, 1)}, []api.Place{p(4, 0), p(8, 1)}, 8},
		{[]int{8, 7}, []api.Place{p(7, 1)}, []api.Place{p(4, 0), p(8, 1)}, 8},
		{[]int{8}, []api.Place{p(7, 1)}, []api.Place{p(8, 1)}, 10},
		{[]int{5, 2, 0, 3, 8}, []api.Place{p(2, 2), p(3, 0), p(5, 2), p(7, 1)}, []api.Place{p(2, 1), p(4, 0), p(8, 1)}, 4},
	} {
		b := made(t, 100)
		for i, w := range chain {
			admits(t, b, i+1, w)
		}
		for _, n := range c.pins {
			pin(t, b, n, api.OK)
		}
		collects(t, b, c.gone)
		has(t, b, at(1), c.one...)
		has(t, b, at(2), c.two...)
		has(t, b, at(40), p(8, 2))
		collects(t, b, 0)
	}
}

// 10.5: the floor goes up without a version to let go, and by Collect alone.
func TestFloor(t *testing.T) {
	b := made(t, 4)
	collects(t, b, 0)
	admits(t, b, 1, nil)
	numbers(t, b, 1, 0, 0)
	pin(t, b, 0, api.OK)
	unpin(t, b, 0, api.OK)
	collects(t, b, 0)
	numbers(t, b, 1, 1, 0)
	pin(t, b, 0, api.ErrFloor)
	admits(t, b, 2, nil)
	admits(t, b, 3, nil)
	numbers(t, b, 3, 1, 0)
	pin(t, b, 1, api.OK)
	pin(t, b, 2, api.OK)
	collects(t, b, 0)
	pin(t, b, 2, api.OK)
	unpin(t, b, 1, api.OK)
	pin(t, b, 1, api.ErrFloor)
}

// 10.6: what is told is told in order, whatever order it came in; what only tells changes nothing.
func TestTells(t *testing.T) {
	b := made(t, 1000)
	for i := range 60 {
		k := api.Key{Table: (i * 37) % 11, Row: int64((i*101)%60) - 30}
		admits(t, b, i+1, writes([]api.Key{k}))
	}
	for i := range 32 {
		pin(t, b, (i*23)%61, api.OK)
	}
	was := told(b)
	for range 5 {
		if is := told(b); is != was {
			t.Errorf("it is %s, not %s", is, was)
		}
	}
	all := b.Keys()
	if len(all) != 60 || !slices.IsSortedFunc(all, func(a, b api.Key) int {
		return slices.Compare([]int64{int64(a.Table), a.Row}, []int64{int64(b.Table), b.Row})
	}) {
		t.Errorf("Keys: %v", all)
	}
	var pinned []int
	for _, pin := range b.Pins() {
		pinned = append(pinned, pin.Batch)
	}
	if len(pinned) != 32 || !slices.IsSorted(pinned) {
		t.Errorf("Pins: %v", b.Pins())
	}
}

// 10.6: of what is no key, and of a key without versions, there is none.
func TestNoVersions(t *testing.T) {
	b := two(t)
	for _, k := range append(slices.Clone(noKeys), at(0), at(3), at(-1), api.Key{Table: 1, Row: 1}) {
		has(t, b, k)
	}
	if got := b.Keys(); !slices.Equal(got, set(1, 2)) {
		t.Errorf("Keys: %v", got)
	}
}

// 10.8: at each charge just the batches that have room are let in.
func TestRoom(t *testing.T) {
	for _, capacity := range []int{1, 2, 7, 20} {
		for charge := range capacity + 1 {
			for weight := range 2*capacity + 3 {
				b := made(t, capacity)
				for i := range charge {
					admits(t, b, i+1, writes(nil, set(int64(i%2))))
				}
				var w [][]api.Key
				for i := range weight {
					w = append(w, set(int64(i)))
				}
				if charge+weight > capacity {
					refuses(t, b, w, api.ErrRoom)
					continue
				}
				admits(t, b, charge+1, w)
				numbers(t, b, charge+1, 0, charge+weight)
			}
		}
	}
}

// 10.8, 10.10: the greatest capacity is filled to the last version, by one key or by as many as there are, and comes back by a Collect.
func TestGreatest(t *testing.T) {
	for _, oneKey := range []bool{true, false} {
		b := made(t, api.MaxCapacity)
		n := api.MaxCapacity / 64
		if !oneKey {
			n /= 16
		}
		for i := range n {
			w := same(64, set(1))
			for j := range w {
				if !oneKey {
					w[j] = run(int64(1024*i+16*j), 16)
				}
			}
			admits(t, b, i+1, w)
		}
		numbers(t, b, n, 0, api.MaxCapacity)
		if _, e := b.Admit(writes(set(1))); e != api.ErrRoom {
			t.Errorf("one more than the capacity: %d", e)
		}
		if oneKey {
			pin(t, b, 500, api.OK)
			collects(t, b, api.MaxCapacity-2)
			has(t, b, at(1), p(500, 63), p(1024, 63))
		} else {
			collects(t, b, 0)
			if len(b.Keys()) != api.MaxCapacity {
				t.Errorf("%d keys", len(b.Keys()))
			}
		}
	}
}
