package store_test

import (
	"testing"

	"prelude/api"
)

// spoil writes over a list, and over the spare room behind its end.
func spoil[E any](list []E, with E) {
	list = list[:cap(list)]
	for i := range list {
		list[i] = with
	}
}

// R4: what is handed out is new memory.
func TestNewMemory(t *testing.T) {
	s := made(t, 1, 50)
	for v := 1; v <= 20; v++ {
		puts(t, s, v, at(int64(v%3)), v, 0)
		does(t, "Fill", s.Fill(v, value(int64(v))), api.OK)
	}
	does(t, "Remove(2)", s.Remove(2), api.OK)
	does(t, "Remove(17)", s.Remove(17), api.OK)
	all := []api.Key{at(0), at(1), at(2)}
	was := told(s, all...)
	chain, ks := s.Chain(at(1)), s.Keys(0)
	spoil(s.Chain(at(1)), api.Version{Batch: 99})
	spoil(s.Keys(0), api.Key{Table: 9})
	if is := told(s, all...); is != was {
		t.Errorf("it is %s, not %s", is, was)
	}
	for i, v := range s.Chain(at(1)) {
		if chain[i] != v {
			t.Errorf("an answer has become %v, not %v", chain[i], v)
		}
	}
	for i, k := range s.Keys(0) {
		if ks[i] != k {
			t.Errorf("an answer has become %v, not %v", ks[i], k)
		}
	}
}

// R4: an answer is of its moment, whatever is done later.
func TestAnswersStay(t *testing.T) {
	s := made(t, 1, 50)
	puts(t, s, 1, at(1), 1, 0)
	puts(t, s, 2, at(1), 2, 0)
	puts(t, s, 3, at(2), 2, 0)
	chain, ks := s.Chain(at(1)), s.Keys(0)
	does(t, "Fill(2)", s.Fill(2, value(5)), api.OK)
	does(t, "Remove(1)", s.Remove(1), api.OK)
	does(t, "Remove(3)", s.Remove(3), api.OK)
	puts(t, s, 4, at(0), 1, 0)
	if len(chain) != 2 || chain[0] != (api.Version{Batch: 2}) || chain[1] != (api.Version{Batch: 1}) {
		t.Errorf("the chain has become %v", chain)
	}
	if len(ks) != 2 || ks[0] != at(1) || ks[1] != at(2) {
		t.Errorf("the keys have become %v", ks)
	}
}

// R6: two stores know nothing of one another.
func TestTwoStores(t *testing.T) {
	a, b := made(t, 4, 3), made(t, 7, 5)
	puts(t, a, 1, at(1), 9, 0)
	puts(t, a, 2, at(1), 9, 1)
	puts(t, a, 3, at(2), 9, 1)
	was := told(a, at(1), at(2))
	puts(t, b, 1, at(1), 1, 0)
	does(t, "Fill(1)", b.Fill(1, value(5)), api.OK)
	missing(t, b, 2)
	does(t, "Remove(1)", b.Remove(1), api.OK)
	puts(t, b, 2, at(2), 1, 0)
	if is := told(a, at(1), at(2)); is != was {
		t.Errorf("it is %s, not %s", is, was)
	}
	counts(t, b, 1, 4)
}
