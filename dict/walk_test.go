package dict_test

import (
	"iter"
	"math"
	"slices"
	"testing"

	"prelude/dict"
)

// three is a Dict with three keys in its one partition.
func three(t *testing.T) *dict.Dict[int, string] {
	t.Helper()
	d := made(t, 1, ten)
	d.Put(3, "a")
	d.Put(1, "b")
	d.Put(2, "c")
	return d
}

// gives is what an iterator gives.
func gives(each iter.Seq2[int, string]) []pair {
	var list []pair
	for k, v := range each {
		list = append(list, pair{k, v})
	}
	return list
}

// threePairs is what the iterator of three gives.
func threePairs() []pair { return []pair{{3, "a"}, {1, "b"}, {2, "c"}} }

// 7.5: the iterator goes by the partition as it was when Each was called.
func TestEachElder(t *testing.T) {
	for name, change := range map[string]func(d *dict.Dict[int, string]){
		"another value": func(d *dict.Dict[int, string]) { d.Put(1, "z") },
		"a further key": func(d *dict.Dict[int, string]) { d.Put(4, "z") },
		"the first out": func(d *dict.Dict[int, string]) { d.Take(3) },
		"one amid out":  func(d *dict.Dict[int, string]) { d.Take(1) },
		"the last out":  func(d *dict.Dict[int, string]) { d.Take(2) },
		"out and in":    func(d *dict.Dict[int, string]) { d.Take(3); d.Put(3, "z") },
		"all out":       func(d *dict.Dict[int, string]) { d.Clear() },
		"all anew":      func(d *dict.Dict[int, string]) { d.Clear(); d.Put(2, "z"); d.Put(3, "y") },
	} {
		d := three(t)
		elder := d.Each(0)
		change(d)
		newer := gives(d.Each(0))
		for range 2 {
			if got := gives(elder); !slices.Equal(got, threePairs()) {
				t.Errorf("%s: %v", name, got)
			}
		}
		if slices.Equal(newer, threePairs()) {
			t.Errorf("%s: nothing has changed", name)
		}
		if got := gives(d.Each(0)); !slices.Equal(got, newer) {
			t.Errorf("%s: going over the elder one has changed %v to %v", name, newer, got)
		}

		d = three(t)
		var got []pair
		for k, v := range d.Each(0) {
			change(d)
			got = append(got, pair{k, v})
		}
		if !slices.Equal(got, threePairs()) {
			t.Errorf("%s, from within the loop: %v", name, got)
		}
	}
}

// 7.5: of an iterator that was taken while there was nothing, nothing comes.
func TestEachOfNothing(t *testing.T) {
	d := made(t, 2, ten)
	for _, part := range []int{0, 1, 2, -1, math.MaxInt, math.MinInt} {
		each := d.Each(part)
		if each == nil {
			t.Fatalf("Each(%d) is no iterator", part)
		}
		d.Put(0, "a")
		d.Put(1, "b")
		if got := gives(each); len(got) != 0 {
			t.Errorf("Each(%d): %v", part, got)
		}
		d.Clear()
	}
}

// 7.5: a loop that leaves early has had those up to there, and begins from the first again.
func TestEachLeaves(t *testing.T) {
	each := three(t).Each(0)
	for n := range 4 {
		var got []pair
		for k, v := range each {
			if len(got) == n {
				break
			}
			got = append(got, pair{k, v})
		}
		if !slices.Equal(got, threePairs()[:n]) {
			t.Errorf("%d: %v", n, got)
		}
	}
	calls := 0
	each(func(int, string) bool { calls++; return calls < 2 })
	if calls != 2 {
		t.Errorf("called %d times", calls)
	}
	if got := gives(each); !slices.Equal(got, threePairs()) {
		t.Errorf("again: %v", got)
	}
}

// 7.5: an iterator may be gone over within its own loop, and by hand beside itself.
func TestEachWithin(t *testing.T) {
	each := three(t).Each(0)
	var outer []pair
	for k, v := range each {
		if got := gives(each); !slices.Equal(got, threePairs()) {
			t.Errorf("within, at %d: %v", k, got)
		}
		for range each {
			break
		}
		outer = append(outer, pair{k, v})
	}
	if !slices.Equal(outer, threePairs()) {
		t.Errorf("outside: %v", outer)
	}
	one, stopOne := iter.Pull2(each)
	two, stopTwo := iter.Pull2(each)
	defer stopOne()
	defer stopTwo()
	for _, want := range threePairs() {
		k, v, is := one()
		l, w, has := two()
		if !is || !has || (pair{k, v}) != want || (pair{l, w}) != want {
			t.Errorf("side by side: %d %s, %d %s, not %v", k, v, l, w, want)
		}
	}
}

// 7.5: changes from within the loop stand behind it.
func TestEachChanges(t *testing.T) {
	d := three(t)
	for k, v := range d.Each(0) {
		d.Take(k)
		d.Put(k+10, v+v)
	}
	holds(t, d, 0, pair{13, "aa"}, pair{11, "bb"}, pair{12, "cc"})
	for k := range d.Each(0) {
		d.Take(k)
	}
	holds(t, d, 0)
}

// 7.5, R4: the keys are new memory, spare room too, and nothing that is done later changes them.
func TestKeysMemory(t *testing.T) {
	d := three(t)
	one, two := d.Keys(0), d.Keys(0)
	spoil(one[:cap(one)])
	spoil(append(d.Keys(0), 5, 6, 7))
	if !slices.Equal(two, []int{3, 1, 2}) {
		t.Errorf("two answers share memory: %v", two)
	}
	holds(t, d, 0, threePairs()...)
	d.Take(1)
	d.Put(8, "d")
	d.Clear()
	if !slices.Equal(two, []int{3, 1, 2}) {
		t.Errorf("an answer changed: %v", two)
	}
}

// spoil writes over a list.
func spoil(list []int) {
	for i := range list {
		list[i] = -1
	}
}
