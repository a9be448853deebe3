package dict_test

import (
	"errors"
	"math"
	"slices"
	"testing"

	"prelude/api"
	"prelude/dict"
)

// 7.6: a value is kept as it was handed in: a list stays the same list.
func TestValueKept(t *testing.T) {
	d, _ := dict.New[string, []int](2, nil)
	list := make([]int, 2, 10)
	d.Put("x", list)
	list[1] = 5
	got, is := d.Get("x")
	if !is || len(got) != 2 || cap(got) != 10 || &got[0] != &list[0] || got[1] != 5 {
		t.Errorf("Get: %v, %v", got, is)
	}
	for _, v := range d.Each(0) {
		if &v[0] != &list[0] || cap(v) != 10 {
			t.Errorf("Each: %v", v)
		}
	}
	if old, is := d.Put("x", nil); !is || &old[0] != &list[0] {
		t.Errorf("Put: %v, %v", old, is)
	}
	if got, is := d.Take("x"); !is || got != nil {
		t.Errorf("Take: %v, %v", got, is)
	}
}

// 7.6: a value may be anything: a function, an interface, a number that is none.
func TestValuesOfAnyKind(t *testing.T) {
	f, _ := dict.New[int, func() int](3, ten)
	f.Put(1, func() int { return 7 })
	if v, is := f.Get(1); !is || v() != 7 {
		t.Error("a function is not kept")
	}
	if v, is := f.Get(2); is || v != nil {
		t.Error("a function that is not there")
	}
	n, _ := dict.New[int, float64](3, ten)
	n.Put(1, math.NaN())
	if v, is := n.Take(1); !is || v == v {
		t.Errorf("%v, %v", v, is)
	}
	e, _ := dict.New[int, error](3, ten)
	e.Put(1, api.ErrParts)
	if v, is := e.Get(1); !is || !errors.Is(v, api.ErrParts) {
		t.Errorf("%v, %v", v, is)
	}
}

// Keys may be of any kind that can be held against each other.
func TestKeysOfAnyKind(t *testing.T) {
	k, _ := dict.New[api.Key, int](16, func(k api.Key) uint64 { return uint64(k.Row) })
	k.Put(api.Key{Table: 1, Row: 18}, 1)
	k.Put(api.Key{Table: 2, Row: 18}, 2)
	if v, is := k.Get(api.Key{Table: 2, Row: 18}); v != 2 || !is {
		t.Errorf("%d, %v", v, is)
	}
	if got := k.Keys(2); !slices.Equal(got, []api.Key{{Table: 1, Row: 18}, {Table: 2, Row: 18}}) {
		t.Errorf("%v", got)
	}
	a, _ := dict.New[[2]int, int](16, nil)
	a.Put([2]int{1, 2}, 3)
	if v, is := a.Take([2]int{1, 2}); v != 3 || !is || a.Len() != 0 {
		t.Errorf("%d, %v", v, is)
	}
	p, _ := dict.New[*int, int](16, nil)
	one, two := new(int), new(int)
	p.Put(one, 1)
	p.Put(nil, 2)
	if _, is := p.Get(two); is || p.Len() != 2 {
		t.Error("pointers are told apart by where they point")
	}
	if v, is := p.Get(nil); v != 2 || !is {
		t.Errorf("%d, %v", v, is)
	}
	e, _ := dict.New[struct{}, int](1, nil)
	e.Put(struct{}{}, 1)
	if v, is := e.Put(struct{}{}, 2); v != 1 || !is || e.Len() != 1 {
		t.Errorf("%d, %v", v, is)
	}
}

// Two numbers that are the same key by == are one, also where they look otherwise.
func TestSameKeys(t *testing.T) {
	d, _ := dict.New[float64, string](4, nil)
	d.Put(0, "a")
	if v, is := d.Put(math.Copysign(0, -1), "b"); v != "a" || !is || d.Len() != 1 {
		t.Errorf("%q, %v, %d", v, is, d.Len())
	}
	s, _ := dict.New[any, string](4, nil)
	s.Put(1, "a")
	s.Put(int64(1), "b")
	s.Put("1", "c")
	s.Put(nil, "d")
	if v, is := s.Get(1); v != "a" || !is || s.Len() != 4 {
		t.Errorf("%q, %v, %d", v, is, s.Len())
	}
}

// R1: no call panics at a key that can't be held against others: it is never there.
func TestNoKeys(t *testing.T) {
	type two struct{ a, b any }
	d, _ := dict.New[any, int](4, func(any) uint64 { return 6 })
	d.Put("x", 1)
	for _, k := range []any{[]int{1}, map[int]int{}, func() {}, two{1, []int{}}, two{math.NaN(), []int{}}, [1]any{[]int(nil)}} {
		if v, is := d.Put(k, 2); v != 0 || is {
			t.Errorf("Put(%v): %d, %v", k, v, is)
		}
		if v, is := d.Get(k); v != 0 || is {
			t.Errorf("Get(%v): %d, %v", k, v, is)
		}
		if v, is := d.Take(k); v != 0 || is {
			t.Errorf("Take(%v): %d, %v", k, v, is)
		}
		if d.Part(k) != 2 || d.Len() != 1 || d.Size(2) != 1 || !slices.Equal(d.Keys(2), []any{"x"}) {
			t.Errorf("behind %v: %d, %d, %v", k, d.Part(k), d.Len(), d.Keys(2))
		}
	}
	f, _ := dict.New[float64, int](4, nil)
	f.Put(math.NaN(), 1)
	f.Get(math.NaN())
	f.Take(math.NaN())
	f.Clear()
	if f.Len() != 0 || f.Size(0) != 0 {
		t.Errorf("Clear leaves %d, %d", f.Len(), f.Size(0))
	}
}

// R6: two Dicts know nothing of one another.
func TestTwo(t *testing.T) {
	one, two := made(t, 4, ten), made(t, 4, ten)
	one.Put(7, "a")
	two.Put(7, "b")
	two.Put(3, "c")
	holds(t, one, 3, pair{7, "a"})
	two.Clear()
	holds(t, one, 3, pair{7, "a"})
	one.Take(7)
	holds(t, two, 3)
}
