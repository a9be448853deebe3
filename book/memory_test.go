package book_test

import (
	"slices"
	"testing"

	"prelude/api"
)

// spoil writes over a list, and over the spare room behind its end.
func spoil[E any](list []E, with E) {
	list = list[:cap(list)]
	for i := range list {
		list[i] = with
	}
}

// R4: what is handed in is neither changed nor kept, what lies in the spare room behind its end too.
func TestHandedIn(t *testing.T) {
	b := made(t, 20)
	sets := make([][]api.Key, 3, 5)
	for i := range sets {
		sets[i] = append(make([]api.Key, 0, 6), run(int64(i), 3)...)
		spoil(sets[i][3:], api.Key{Table: 77})
	}
	spoil(sets[3:], set(5))
	admits(t, b, 1, sets)
	for i, l := range sets {
		if !slices.Equal(l, run(int64(i), 3)) || l[:4][3] != (api.Key{Table: 77}) {
			t.Errorf("list %d has become %v", i, l[:cap(l)])
		}
	}
	if rest := sets[3:5]; !slices.Equal(rest[0], set(5)) || !slices.Equal(rest[1], set(5)) {
		t.Errorf("behind the lists' end there is %v", rest)
	}
	was := told(b)
	for _, l := range sets {
		spoil(l, at(9))
	}
	spoil(sets, nil)
	if is := told(b); is != was {
		t.Errorf("it is %s, not %s", is, was)
	}
}

// R4: so it is with a snapshot.
func TestHandedInSnapshot(t *testing.T) {
	s := image(9, []api.Pin{{Batch: 2, Count: 1}, {Batch: 5, Count: 3}}, chain(at(1), 1, 4, 7), chain(at(2), 2, 3))
	b := restored(t, 8, s)
	if !slices.Equal(s.Pins, []api.Pin{{Batch: 2, Count: 1}, {Batch: 5, Count: 3}}) || len(s.Chains) != 2 || !slices.Equal(s.Chains[0].Versions, chain(at(1), 1, 4, 7).Versions) {
		t.Errorf("the snapshot has become %v", s)
	}
	was := told(b)
	for _, c := range s.Chains {
		spoil(c.Versions, api.Stamp{Batch: 8})
	}
	spoil(s.Chains, api.Chain{})
	spoil(s.Pins, api.Pin{})
	if is := told(b); is != was {
		t.Errorf("it is %s, not %s", is, was)
	}
	collects(t, b, 0)
}

// R4: what is handed out is new memory.
func TestNewMemory(t *testing.T) {
	b := made(t, 100)
	for n := range 10 {
		admits(t, b, n+1, writes(set(1), set(1, 2)))
		pin(t, b, n, api.OK)
	}
	was := told(b)
	ks, places, pinned := b.Keys(), b.Versions(at(1)), b.Pins()
	spoil(b.Keys(), at(9))
	spoil(b.Versions(at(1)), p(9, 9))
	spoil(b.Pins(), api.Pin{Batch: 99})
	if is := told(b); is != was {
		t.Errorf("it is %s, not %s", is, was)
	}
	if !slices.Equal(ks, b.Keys()) || !slices.Equal(places, b.Versions(at(1))) || !slices.Equal(pinned, b.Pins()) {
		t.Errorf("answers have become %v, %v, %v", ks, places, pinned)
	}
}

// R4: an answer is of its moment, whatever is done later.
func TestAnswersStay(t *testing.T) {
	b := two(t)
	pin(t, b, 1, api.OK)
	ks, places, pinned := b.Keys(), b.Versions(at(1)), b.Pins()
	pin(t, b, 1, api.OK)
	pin(t, b, 0, api.OK)
	admits(t, b, 3, writes(set(0, 1)))
	collects(t, b, 3)
	if !slices.Equal(ks, set(1, 2)) || !slices.Equal(places, []api.Place{p(1, 0), p(2, 0), p(2, 1)}) || !slices.Equal(pinned, []api.Pin{{Batch: 1, Count: 1}}) {
		t.Errorf("answers have become %v, %v, %v", ks, places, pinned)
	}
}

// R6: two books know nothing of one another.
func TestTwoBooks(t *testing.T) {
	a, b := two(t), made(t, 30)
	was := told(a)
	admits(t, b, 1, writes(set(1), set(2, 3)))
	admits(t, b, 2, writes(set(1)))
	pin(t, b, 2, api.OK)
	collects(t, b, 1)
	if is := told(a); is != was {
		t.Errorf("it is %s, not %s", is, was)
	}
	collects(t, a, 4)
	has(t, b, at(1), p(2, 0))
	has(t, b, at(2), p(1, 1))
}
