package keys_test

import (
	"math"
	"slices"
	"testing"

	"prelude/api"
	"prelude/keys"
)

// 2.9: Split, the chapter's example.
func TestSplitExample(t *testing.T) {
	l, e := keys.Split([]api.Key{key(1, 1), key(1, 1)}, 1)
	if len(l) != 1 || !slices.Equal(l[0], []api.Key{key(1, 1), key(1, 1)}) || e != api.OK {
		t.Errorf("Split is %v, %d", l, e)
	}
	if l, e := keys.Split(nil, 3); len(l) != 3 || len(l[0])+len(l[1])+len(l[2]) != 0 || e != api.OK {
		t.Errorf("Split of nothing is %v, %d", l, e)
	}
	if l, e := keys.Split([]api.Key{key(-1, 0)}, 0); len(l) != 0 || e != api.ErrParts {
		t.Errorf("Split into 0 is %v, %d", l, e)
	}
}

// 2.9, 2.11: each key stands in the list that Partition tells, in the list's order, as often as there.
func TestSplit(t *testing.T) {
	l := rungs()
	slices.Reverse(l)
	l = slices.Concat(l, l[10:50], rungs()[:30])
	for _, parts := range []int{1, 2, 3, 16, 255, 256} {
		want := make([][]api.Key, parts)
		for _, k := range l {
			p, _ := keys.Partition(k, parts)
			want[p] = append(want[p], k)
		}
		got, e := keys.Split(l, parts)
		if len(got) != parts || e != api.OK {
			t.Fatalf("Split into %d is %d lists, %d", parts, len(got), e)
		}
		for p := range got {
			if !slices.Equal(got[p], want[p]) {
				t.Errorf("Split into %d has %v at %d, want %v", parts, got[p], p, want[p])
			}
		}
	}
}

// 2.9: no number of partitions, no key, and which of both is told first.
func TestSplitRefuses(t *testing.T) {
	for _, parts := range []int{0, -1, 257, 1 << 32, math.MaxInt, math.MinInt} {
		for _, l := range [][]api.Key{nil, {key(1, 1)}, {key(-1, 0)}, {key(65536, 0)}} {
			if got, e := keys.Split(l, parts); len(got) != 0 || e != api.ErrParts {
				t.Errorf("Split(%v, %d) is %v, %d", l, parts, got, e)
			}
		}
	}
	for _, none := range []api.Key{key(-1, 0), key(65536, 0), key(math.MinInt, 5), key(math.MaxInt, 5)} {
		for at := range 4 {
			l := slices.Insert([]api.Key{key(3, 0), key(1, 0), key(2, 0)}, at, none)
			for _, parts := range []int{1, 2, 256} {
				if got, e := keys.Split(l, parts); len(got) != 0 || e != api.ErrKey {
					t.Errorf("Split(%v, %d) is %v, %d", l, parts, got, e)
				}
			}
		}
	}
}

// 2.1: what Split is given stays as it is, and each list that it answers is new, with its spare room.
func TestSplitMemory(t *testing.T) {
	l, same := marked(rungs())
	for _, parts := range []int{1, 2, 5, 256} {
		got, _ := keys.Split(l, parts)
		want, _ := keys.Split(l, parts)
		for p := range got {
			if !slices.Equal(got[p], want[p]) {
				t.Errorf("the list %d of %d is spoilt by those ahead of it", p, parts)
			}
			spoil(got[p])
		}
		if !same() {
			t.Errorf("Split into %d has changed what was handed in", parts)
		}
	}
	// From the last one to the first, too: spare room lies behind a list.
	got, _ := keys.Split(l, 5)
	want, _ := keys.Split(l, 5)
	for p := 4; p >= 0; p-- {
		if !slices.Equal(got[p], want[p]) {
			t.Errorf("the list %d is spoilt by those behind it", p)
		}
		spoil(got[p])
	}
}

// gone is what a loop over All has had, up to so many.
func gone(all func(func(int, api.Key) bool), most int) ([]int, []api.Key) {
	var places []int
	var l []api.Key
	for i, k := range all {
		if len(l) == most {
			break
		}
		places, l = append(places, i), append(l, k)
	}
	return places, l
}

// count is the numbers from 0 on, so many.
func count(n int) []int {
	l := make([]int, n)
	for i := range l {
		l[i] = i
	}
	return l
}

// 2.10: All goes over any list, from the first on, whatever its members are.
func TestAll(t *testing.T) {
	some := []api.Key{key(5, 5), key(4, 4), key(4, 4), key(-1, 0), key(70000, -3)}
	for _, l := range [][]api.Key{nil, {}, {key(-1, 0)}, some, ladder()} {
		all := keys.All(l)
		for range 2 {
			if places, got := gone(all, len(l)+1); !slices.Equal(places, count(len(l))) || !slices.Equal(got, l) {
				t.Errorf("All(%v) has %v at %v", l, got, places)
			}
		}
	}
}

// 2.10: a loop that leaves early has had those up to there, and the next one begins anew.
func TestAllLeftEarly(t *testing.T) {
	l := []api.Key{key(5, 5), key(4, 4), key(3, 3)}
	all := keys.All(l)
	for most := range 5 {
		n := min(most, len(l))
		if places, got := gone(all, most); !slices.Equal(places, count(n)) || !slices.Equal(got, l[:n]) {
			t.Errorf("up to %d there were %v at %v", most, got, places)
		}
	}
	// Whoever answers false is not asked again.
	for last := range l {
		asked := 0
		all(func(i int, k api.Key) bool {
			if asked != i || k != l[i] {
				t.Errorf("asked with %d, %v", i, k)
			}
			asked++
			return i != last
		})
		if asked != last+1 {
			t.Errorf("asked %d times, and left at %d", asked, last)
		}
	}
}

// 2.10: All within its own loop.
func TestAllWithin(t *testing.T) {
	l := []api.Key{key(2, 0), key(1, 0), key(0, 0)}
	all := keys.All(l)
	var pairs [][2]int
	for i, a := range all {
		for j, b := range all {
			if a != l[i] || b != l[j] {
				t.Errorf("%v at %d, %v at %d", a, i, b, j)
			}
			pairs = append(pairs, [2]int{i, j})
		}
	}
	if want := [][2]int{{0, 0}, {0, 1}, {0, 2}, {1, 0}, {1, 1}, {1, 2}, {2, 0}, {2, 1}, {2, 2}}; !slices.Equal(pairs, want) {
		t.Errorf("the loops had %v", pairs)
	}
}

// 2.1, 2.10: All goes by the list as it was at the call; it leaves the list as it is.
func TestAllMemory(t *testing.T) {
	before := []api.Key{key(5, 5), key(4, 4), key(3, 3)}
	l, same := marked(before)
	all := keys.All(l)
	if _, got := gone(all, 9); !slices.Equal(got, before) || !same() {
		t.Errorf("All has %v, the list is %v", got, l)
	}
	spoil(l)
	if _, got := gone(all, 9); !slices.Equal(got, before) {
		t.Errorf("behind a change All has %v", got)
	}
	// Also where the change comes within the loop.
	l = slices.Clone(before)
	all = keys.All(l)
	var got []api.Key
	for _, k := range all {
		spoil(l)
		got = append(got, k)
	}
	if !slices.Equal(got, before) {
		t.Errorf("with a change within the loop All has %v", got)
	}
}
