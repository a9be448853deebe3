package book_test

import (
	"fmt"
	"math"
	"slices"
	"testing"

	"prelude/api"
	"prelude/book"
)

// chain is a key's versions, by their batches, each of transaction 3.
func chain(k api.Key, batches ...int) api.Chain {
	c := api.Chain{Key: k}
	for _, n := range batches {
		c.Versions = append(c.Versions, api.Stamp{Batch: n, Index: 3})
	}
	return c
}

// image is a snapshot.
func image(latest int, pins []api.Pin, chains ...api.Chain) api.Snapshot {
	return api.Snapshot{Latest: latest, Pins: pins, Chains: chains}
}

// restored is the book of a snapshot that can be restored.
func restored(t *testing.T, capacity int, s api.Snapshot) *book.Book {
	t.Helper()
	b, e := book.Restore(capacity, s)
	if b == nil || e != api.OK {
		t.Fatalf("Restore(%d, %v): %v, %d", capacity, s, b, e)
	}
	return b
}

// spoilt holds a Restore against the error that it must answer.
func spoilt(t *testing.T, capacity int, s api.Snapshot, want api.Errno) {
	t.Helper()
	if b, e := book.Restore(capacity, s); b != nil || e != want {
		t.Errorf("Restore(%d, %v): %v, %d, not %d", capacity, s, b, e, want)
	}
}

// snapshot says of a book what it tells.
func snapshot(b *book.Book) api.Snapshot {
	s := api.Snapshot{Latest: b.Latest(), Pins: b.Pins()}
	for _, k := range b.Keys() {
		c := api.Chain{Key: k}
		for _, p := range b.Versions(k) {
			c.Versions = append(c.Versions, api.Stamp{Batch: p.Batch, Index: p.Index, Cell: api.Cell{Value: 7}})
		}
		s.Chains = append(s.Chains, c)
	}
	return s
}

// Example 5.
func TestRestoreExample(t *testing.T) {
	pinned := []api.Pin{{Batch: 2, Count: 1}}
	b := restored(t, 8, image(5, pinned, chain(at(1), 1, 3)))
	numbers(t, b, 5, 5, 2)
	has(t, b, at(1), p(1, 3), p(3, 3))
	spoilt(t, 8, image(5, nil, chain(at(1), 1, 3)), api.ErrImage)
	spoilt(t, 8, image(5, pinned, chain(at(1), 3, 4)), api.ErrImage)
	spoilt(t, 8, image(2, pinned, chain(at(1), 1, 3)), api.ErrImage)
	spoilt(t, 1, image(5, pinned, chain(at(1), 1, 3)), api.ErrRoom)
	spoilt(t, 0, image(5, pinned, chain(at(1), 1, 3)), api.ErrCapacity)
}

// Example 6.
func TestRestoreLast(t *testing.T) {
	b := restored(t, 8, image(1099511627776, nil))
	refuses(t, b, nil, api.ErrLast)
	pin(t, b, 1099511627776, api.OK)
}

// 10.2: a restored book is what the snapshot says, and goes on from there.
func TestRestored(t *testing.T) {
	pinned := []api.Pin{{Batch: 0, Count: 4}, {Batch: 3, Count: 1}, {Batch: 6, Count: api.MaxNumber}, {Batch: 9, Count: 2}}
	s := image(9, pinned, chain(at(-5), 3, 6, 8), chain(at(1), 9), chain(api.Key{Table: 2, Row: -9}, 1, 4))
	s.Chains[0].Versions[1].Index = 0
	s.Chains[1].Versions[0].Index = 63
	b := restored(t, 10, s)
	numbers(t, b, 9, 9, 6)
	if b.Capacity() != 10 || !slices.Equal(b.Pins(), pinned) || !slices.Equal(b.Keys(), []api.Key{at(-5), at(1), {Table: 2, Row: -9}}) {
		t.Errorf("it is %s", told(b))
	}
	has(t, b, at(-5), p(3, 3), p(6, 0), p(8, 3))
	has(t, b, at(1), p(9, 63))
	has(t, b, api.Key{Table: 2, Row: -9}, p(1, 3), p(4, 3))
	collects(t, b, 0)
	refuses(t, b, writes(run(0, 5)), api.ErrRoom)
	admits(t, b, 10, writes(set(1), nil, set(-5, 1)))
	has(t, b, at(1), p(9, 63), p(10, 0), p(10, 2))
	unpin(t, b, 3, api.OK)
	pin(t, b, 3, api.ErrFloor)
	pin(t, b, 8, api.ErrFloor)
	pin(t, b, 0, api.OK)
	collects(t, b, 3)
	has(t, b, at(-5), p(6, 0), p(8, 3), p(10, 2))
	has(t, b, at(1), p(9, 63), p(10, 2))
	has(t, b, api.Key{Table: 2, Row: -9}, p(4, 3))
}

// 10.2: a snapshot in which one thing is wrong, each at its edge, and the nearest one that is right.
func TestRestoreRefuses(t *testing.T) {
	good := func() api.Snapshot {
		return image(9, []api.Pin{{Batch: 2, Count: 1}, {Batch: 5, Count: 3}}, chain(at(1), 1, 4, 7), chain(at(2), 2, 3))
	}
	for i, c := range []struct {
		change func(s *api.Snapshot)
		right  bool
	}{
		{func(s *api.Snapshot) {}, true},
		{func(s *api.Snapshot) { s.Latest = 7 }, true},
		{func(s *api.Snapshot) { s.Latest = 6 }, false},
		{func(s *api.Snapshot) { s.Latest = 0 }, false},
		{func(s *api.Snapshot) { s.Latest = -1 }, false},
		{func(s *api.Snapshot) { s.Latest = math.MinInt }, false},
		{func(s *api.Snapshot) { s.Latest = api.MaxNumber }, true},
		{func(s *api.Snapshot) { s.Latest = api.MaxNumber + 1 }, false},
		{func(s *api.Snapshot) { s.Latest = math.MaxInt }, false},
		{func(s *api.Snapshot) { s.Pins = s.Pins[:1] }, false},
		{func(s *api.Snapshot) { s.Pins = s.Pins[1:] }, false},
		{func(s *api.Snapshot) { slices.Reverse(s.Pins) }, false},
		{func(s *api.Snapshot) { s.Pins = append(s.Pins, api.Pin{Batch: 5, Count: 3}) }, false},
		{func(s *api.Snapshot) { s.Pins = append(s.Pins, api.Pin{Batch: 4, Count: 3}) }, false},
		{func(s *api.Snapshot) { s.Pins = append(s.Pins, api.Pin{Batch: 9, Count: 3}) }, true},
		{func(s *api.Snapshot) { s.Pins = append(s.Pins, api.Pin{Batch: 10, Count: 3}) }, false},
		{func(s *api.Snapshot) { s.Pins = append(s.Pins, api.Pin{Batch: math.MaxInt, Count: 3}) }, false},
		{func(s *api.Snapshot) { s.Pins = append([]api.Pin{{Batch: 0, Count: 1}}, s.Pins...) }, true},
		{func(s *api.Snapshot) { s.Pins = append([]api.Pin{{Batch: -1, Count: 1}}, s.Pins...) }, false},
		{func(s *api.Snapshot) { s.Pins = append([]api.Pin{{Batch: math.MinInt, Count: 1}}, s.Pins...) }, false},
		{func(s *api.Snapshot) { s.Pins[0].Count = 0 }, false},
		{func(s *api.Snapshot) { s.Pins[1].Count = -1 }, false},
		{func(s *api.Snapshot) { s.Pins[1].Count = math.MinInt }, false},
		{func(s *api.Snapshot) { s.Pins[1].Count = api.MaxNumber }, true},
		{func(s *api.Snapshot) { s.Pins[1].Count = api.MaxNumber + 1 }, false},
		{func(s *api.Snapshot) { s.Chains = nil }, true},
		{func(s *api.Snapshot) { slices.Reverse(s.Chains) }, false},
		{func(s *api.Snapshot) { s.Chains[1].Key = at(1) }, false},
		{func(s *api.Snapshot) { s.Chains[0].Key.Table = -1 }, false},
		{func(s *api.Snapshot) { s.Chains[1].Key.Table = api.MaxTable }, true},
		{func(s *api.Snapshot) { s.Chains[1].Key.Table = api.MaxTable + 1 }, false},
		{func(s *api.Snapshot) { s.Chains[0].Key.Row = math.MinInt64 }, true},
		{func(s *api.Snapshot) { s.Chains[0].Versions = nil }, false},
		{func(s *api.Snapshot) { s.Chains[1].Versions = []api.Stamp{} }, false},
		{func(s *api.Snapshot) { s.Chains[0].Versions[0].Batch = 0 }, false},
		{func(s *api.Snapshot) { s.Chains[0].Versions[0].Batch = -1 }, false},
		{func(s *api.Snapshot) { s.Chains[0].Versions[0].Batch = math.MinInt }, false},
		{func(s *api.Snapshot) { s.Chains[0].Versions[0].Batch = 2 }, true},
		{func(s *api.Snapshot) { s.Chains[0].Versions[0].Batch = 3 }, false},
		{func(s *api.Snapshot) { s.Chains[0].Versions[0].Batch = 4 }, false},
		{func(s *api.Snapshot) { s.Chains[0].Versions[0].Batch = 5 }, false},
		{func(s *api.Snapshot) { s.Chains[0].Versions[1].Batch = 2 }, false},
		{func(s *api.Snapshot) { s.Chains[0].Versions[1].Batch = 3 }, true},
		{func(s *api.Snapshot) { s.Chains[0].Versions[1].Batch = 5 }, true},
		{func(s *api.Snapshot) { s.Chains[0].Versions[1].Batch = 6 }, false},
		{func(s *api.Snapshot) { s.Chains[0].Versions[1].Batch = 7 }, false},
		{func(s *api.Snapshot) { s.Chains[0].Versions[2].Batch = 5 }, false},
		{func(s *api.Snapshot) { s.Chains[0].Versions[2].Batch = 6 }, true},
		{func(s *api.Snapshot) { s.Chains[0].Versions[2].Batch = 9 }, true},
		{func(s *api.Snapshot) { s.Chains[0].Versions[2].Batch = 10 }, false},
		{func(s *api.Snapshot) { s.Chains[0].Versions[2].Batch = math.MaxInt }, false},
		{func(s *api.Snapshot) { slices.Reverse(s.Chains[0].Versions) }, false},
		{func(s *api.Snapshot) { slices.Reverse(s.Chains[1].Versions) }, false},
		{func(s *api.Snapshot) { s.Chains[0].Versions[0].Index = 0 }, true},
		{func(s *api.Snapshot) { s.Chains[0].Versions[0].Index = -1 }, false},
		{func(s *api.Snapshot) { s.Chains[0].Versions[2].Index = math.MinInt }, false},
		{func(s *api.Snapshot) { s.Chains[0].Versions[2].Index = api.MaxTxs - 1 }, true},
		{func(s *api.Snapshot) { s.Chains[0].Versions[2].Index = api.MaxTxs }, false},
		{func(s *api.Snapshot) { s.Chains[1].Versions[1].Index = math.MaxInt }, false},
		{func(s *api.Snapshot) { s.Chains[1].Versions[1].Cell = api.Cell{Is: true, Value: -4} }, true},
		{func(s *api.Snapshot) { s.Chains[1].Versions[1].Cell = api.Cell{Value: -4} }, true},
	} {
		s := good()
		c.change(&s)
		if c.right {
			b := restored(t, 5, s)
			numbers(t, b, s.Latest, s.Latest, b.Charge())
			collects(t, b, 0)
			continue
		}
		if b, e := book.Restore(5, s); b != nil || e != api.ErrImage {
			t.Errorf("case %d: %v, %d", i, b, e)
		}
		spoilt(t, 1, s, api.ErrImage)
		spoilt(t, 0, s, api.ErrCapacity)
	}
}

// 10.2: a snapshot without pins and versions; one without batches has no pins but that of batch 0, and no versions.
func TestRestoreNothing(t *testing.T) {
	b := restored(t, 1, api.Snapshot{})
	numbers(t, b, 0, 0, 0)
	b = restored(t, 1, image(0, []api.Pin{{Batch: 0, Count: 2}}))
	unpin(t, b, 0, api.OK)
	unpin(t, b, 0, api.OK)
	unpin(t, b, 0, api.ErrPin)
	admits(t, b, 1, writes(set(1)))
	for _, latest := range []int{math.MinInt, -1, api.MaxNumber + 1, math.MaxInt} {
		spoilt(t, 1, image(latest, nil), api.ErrImage)
	}
	spoilt(t, 1, image(0, []api.Pin{{Batch: 1, Count: 1}}), api.ErrImage)
	spoilt(t, 1, image(0, nil, chain(at(1), 1)), api.ErrImage)
	spoilt(t, 1, image(0, nil, chain(at(1), 0)), api.ErrImage)
}

// 10.2: as many pins as there may be, and one more.
func TestRestorePins(t *testing.T) {
	var pinned []api.Pin
	for n := range 33 {
		pinned = append(pinned, api.Pin{Batch: n * 2, Count: 1})
	}
	b := restored(t, 1, image(100, pinned[:32]))
	pin(t, b, 100, api.ErrPins)
	pin(t, b, 62, api.OK)
	unpin(t, b, 0, api.OK)
	pin(t, b, 100, api.OK)
	spoilt(t, 1, image(100, pinned), api.ErrImage)
	spoilt(t, 0, image(100, pinned), api.ErrCapacity)
}

// 10.2: the capacities that there may be, asked first; the room is asked last.
func TestRestoreRoom(t *testing.T) {
	wrong, right := image(-1, nil), image(9, []api.Pin{{Batch: 1, Count: 1}}, chain(at(1), 1, 2), chain(at(2), 1, 9), chain(at(3), 4))
	for _, capacity := range []int{math.MinInt, -1, 0, api.MaxCapacity + 1, 1 << 32, math.MaxInt} {
		spoilt(t, capacity, wrong, api.ErrCapacity)
		spoilt(t, capacity, right, api.ErrCapacity)
		spoilt(t, capacity, image(1, nil), api.ErrCapacity)
	}
	for capacity := 1; capacity < 5; capacity++ {
		spoilt(t, capacity, right, api.ErrRoom)
	}
	for _, capacity := range []int{5, 6, api.MaxCapacity} {
		if b := restored(t, capacity, right); b.Capacity() != capacity || b.Charge() != 5 {
			t.Errorf("Restore(%d): %s", capacity, told(b))
		}
	}
	refuses(t, restored(t, 5, right), writes(set(1)), api.ErrRoom)
	var many []api.Chain
	for row := range api.MaxCapacity + 1 {
		many = append(many, chain(at(int64(row)), 1))
	}
	spoilt(t, api.MaxCapacity, image(1, nil, many...), api.ErrRoom)
	restored(t, api.MaxCapacity, image(1, nil, many[1:]...))
	many[api.MaxCapacity].Key = at(0)
	spoilt(t, api.MaxCapacity, image(1, nil, many...), api.ErrImage)
}

// 10.11: what a book tells that is not right behind a Collect is mostly no snapshot; behind it, it is.
func TestThereAndBack(t *testing.T) {
	b := two(t)
	spoilt(t, 8, snapshot(b), api.ErrImage)
	pin(t, b, 1, api.OK)
	pin(t, b, 1, api.OK)
	pin(t, b, 0, api.OK)
	b.Collect()
	again := restored(t, 8, snapshot(b))
	if told(again) != told(b) {
		t.Errorf("it is %s, not %s", told(again), told(b))
	}
	for _, c := range []*book.Book{b, again} {
		unpin(t, c, 1, api.OK)
		admits(t, c, 3, writes(set(2), set(2)))
		unpin(t, c, 1, api.OK)
		pin(t, c, 2, api.OK)
		pin(t, c, 1, api.ErrFloor)
		collects(t, c, 3)
		has(t, c, at(2), p(2, 1), p(3, 1))
	}
	if fmt.Sprint(snapshot(b)) != fmt.Sprint(snapshot(again)) {
		t.Errorf("it is %v, not %v", snapshot(again), snapshot(b))
	}
}
