package keys_test

import (
	"math"
	"math/rand"
	"slices"
	"testing"

	"prelude/api"
	"prelude/keys"
)

// marked is a list with spare room behind its end, and a function that tells whether both are still as they were.
func marked(l []api.Key) ([]api.Key, func() bool) {
	const room = 8
	whole := slices.Concat(l, slices.Repeat([]api.Key{key(-77, 77)}, room))
	before := slices.Clone(whole)
	return whole[:len(l)], func() bool { return slices.Equal(whole, before) }
}

// spoil overwrites a list and the spare room behind it, as a caller may who owns it.
func spoil(l []api.Key) {
	l = l[:cap(l)]
	for i := range l {
		l[i] = key(-99, 99)
	}
}

// lists is some that rise and some that don't.
var lists = []struct {
	l     []api.Key
	rises bool
}{
	{nil, true},
	{[]api.Key{}, true},
	{[]api.Key{key(0, 0)}, true},
	{[]api.Key{key(0, math.MinInt64)}, true},
	{[]api.Key{key(65535, math.MaxInt64)}, true},
	{[]api.Key{key(1, 1), key(1, 2)}, true},
	{[]api.Key{key(1, 9), key(2, -9)}, true},
	{[]api.Key{key(1, -1), key(1, 0), key(1, 1)}, true},
	{[]api.Key{key(0, math.MinInt64), key(0, math.MaxInt64), key(1, math.MinInt64)}, true},
	{[]api.Key{key(1, 1), key(1, 1)}, false},
	{[]api.Key{key(1, 2), key(1, 1)}, false},
	{[]api.Key{key(2, 1), key(1, 2)}, false},
	{[]api.Key{key(1, 1), key(1, 2), key(1, 2)}, false},
	{[]api.Key{key(1, 1), key(1, 3), key(1, 2)}, false},
	{[]api.Key{key(1, 3), key(1, 1), key(1, 2)}, false},
	{[]api.Key{key(-1, 0)}, false},
	{[]api.Key{key(65536, 0)}, false},
	{[]api.Key{key(-1, 0), key(0, 0)}, false},
	{[]api.Key{key(0, 0), key(65536, 0)}, false},
	{[]api.Key{key(0, 0), key(65536, 0), key(65537, 0)}, false},
	{[]api.Key{key(math.MinInt, 0), key(0, 0), key(math.MaxInt, 0)}, false},
}

// 2.7: Rises.
func TestRises(t *testing.T) {
	for _, c := range lists {
		if got := keys.Rises(c.l); got != c.rises {
			t.Errorf("Rises(%v) is %t", c.l, got)
		}
	}
	if !keys.Rises(rungs()) || keys.Rises(ladder()) {
		t.Error("Rises of the ladder, or of its keys")
	}
}

// 2.7: Sort, the chapter's example and others.
func TestSort(t *testing.T) {
	for _, c := range []struct{ l, want []api.Key }{
		{[]api.Key{key(2, 0), key(1, 5), key(2, 0)}, []api.Key{key(1, 5), key(2, 0)}},
		{nil, nil},
		{[]api.Key{}, nil},
		{[]api.Key{key(1, 1)}, []api.Key{key(1, 1)}},
		{[]api.Key{key(1, 1), key(1, 1), key(1, 1)}, []api.Key{key(1, 1)}},
		{[]api.Key{key(1, 1), key(0, 0), key(1, -1), key(0, 0)}, []api.Key{key(0, 0), key(1, -1), key(1, 1)}},
		{[]api.Key{key(1, math.MaxInt64), key(1, math.MinInt64), key(65535, 0), key(0, 0)}, []api.Key{key(0, 0), key(1, math.MinInt64), key(1, math.MaxInt64), key(65535, 0)}},
	} {
		if got, e := keys.Sort(c.l); !slices.Equal(got, c.want) || e != api.OK {
			t.Errorf("Sort(%v) is %v, %d", c.l, got, e)
		}
	}
}

// 2.7, 2.11: of any list of keys Sort is its set; of what rises, that list.
func TestSortShuffled(t *testing.T) {
	random := rand.New(rand.NewSource(1))
	l := rungs()
	for size := range 200 {
		set := slices.Clone(l)
		random.Shuffle(len(set), func(i, j int) { set[i], set[j] = set[j], set[i] })
		set = set[:size]
		twice := slices.Concat(set, set[:size/2])
		random.Shuffle(len(twice), func(i, j int) { twice[i], twice[j] = twice[j], twice[i] })
		slices.SortFunc(set, keys.Compare)
		for _, in := range [][]api.Key{twice, set} {
			if got, e := keys.Sort(in); !slices.Equal(got, set) || e != api.OK || !keys.Rises(got) {
				t.Errorf("Sort(%v) is %v, %d", in, got, e)
			}
		}
	}
}

// 2.7: Sort of a list with something that is no key, wherever it stands.
func TestSortRefuses(t *testing.T) {
	for _, none := range []api.Key{key(-1, 0), key(65536, 0), key(math.MinInt, 5), key(math.MaxInt, 5)} {
		for at := range 4 {
			l := slices.Insert([]api.Key{key(3, 0), key(1, 0), key(2, 0)}, at, none)
			if got, e := keys.Sort(l); len(got) != 0 || e != api.ErrKey {
				t.Errorf("Sort(%v) is %v, %d", l, got, e)
			}
		}
	}
}

// 2.7: Find, the chapter's example and others.
func TestFind(t *testing.T) {
	for _, c := range []struct {
		l    []api.Key
		k    api.Key
		want int
		is   bool
	}{
		{[]api.Key{key(1, 5), key(2, 0)}, key(2, 0), 1, true},
		{[]api.Key{key(1, 5), key(2, 0)}, key(1, 9), 1, false},
		{[]api.Key{key(1, 5), key(2, 0)}, key(70000, 0), 2, false},
		{[]api.Key{key(2, 0), key(1, 5)}, key(2, 0), 0, false},
		{[]api.Key{key(1, 5), key(2, 0)}, key(1, 5), 0, true},
		{[]api.Key{key(1, 5), key(2, 0)}, key(0, 0), 0, false},
		{[]api.Key{key(1, 5), key(2, 0)}, key(-1, 0), 0, false},
		{[]api.Key{key(1, 5), key(2, 0)}, key(2, 1), 2, false},
		{nil, key(0, 0), 0, false},
		{nil, key(-1, 0), 0, false},
		{[]api.Key{key(-1, 0)}, key(-1, 0), 0, false},
		{[]api.Key{key(1, 5), key(70000, 0)}, key(70000, 0), 0, false},
		{[]api.Key{key(1, 5), key(1, 5)}, key(2, 0), 0, false},
		{[]api.Key{key(1, 5), key(2, 0), key(1, 7)}, key(2, 0), 0, false},
	} {
		if got, is := keys.Find(c.l, c.k); got != c.want || is != c.is {
			t.Errorf("Find(%v, %v) is %d, %t", c.l, c.k, got, is)
		}
	}
}

// 2.7: Find of any api.Key in sets of all sizes, and of any in lists that do not rise.
func TestFindEverywhere(t *testing.T) {
	all, l := ladder(), rungs()
	for step := 1; step < 40; step++ {
		var set []api.Key
		for i := step / 2; i < len(l); i += step {
			set = append(set, l[i])
		}
		for _, k := range all {
			below, is := 0, false
			for _, m := range set {
				if keys.Compare(m, k) < 0 {
					below++
				}
				is = is || m == k
			}
			if got, found := keys.Find(set, k); got != below || found != is {
				t.Errorf("Find(.., %v) is %d, %t", k, got, found)
			}
		}
	}
	for _, c := range lists {
		for _, k := range c.l {
			if got, is := keys.Find(c.l, k); !c.rises && (got != 0 || is) {
				t.Errorf("Find(%v, %v) is %d, %t", c.l, k, got, is)
			}
		}
	}
}

// pair is one of Union, Meet and Minus, and which keys it tells.
type pair struct {
	name string
	of   func(a, b []api.Key) ([]api.Key, api.Errno)
	has  func(inA, inB bool) bool
}

// pairs is all three.
var pairs = []pair{
	{"Union", keys.Union, func(inA, inB bool) bool { return inA || inB }},
	{"Meet", keys.Meet, func(inA, inB bool) bool { return inA && inB }},
	{"Minus", keys.Minus, func(inA, inB bool) bool { return inA && !inB }},
}

// 2.8: the chapter's example.
func TestPairsExample(t *testing.T) {
	a, b := []api.Key{key(1, 1), key(3, 0)}, []api.Key{key(1, 1), key(2, 0)}
	want := [][]api.Key{{key(1, 1), key(2, 0), key(3, 0)}, {key(1, 1)}, {key(3, 0)}}
	for i, p := range pairs {
		if got, e := p.of(a, b); !slices.Equal(got, want[i]) || e != api.OK {
			t.Errorf("%s is %v, %d", p.name, got, e)
		}
	}
	if got, e := keys.Union([]api.Key{key(2, 0), key(1, 0)}, nil); len(got) != 0 || e != api.ErrOrder {
		t.Errorf("Union is %v, %d", got, e)
	}
}

// members is those keys of a list whose places are bits of a number.
func members(l []api.Key, bits int) []api.Key {
	var set []api.Key
	for i, k := range l {
		if bits>>i&1 == 1 {
			set = append(set, k)
		}
	}
	return set
}

// 2.8, 2.11: of all pairs of sets of a few keys.
func TestPairsOfAllSets(t *testing.T) {
	l := []api.Key{key(0, math.MinInt64), key(0, 7), key(1, -7), key(1, 8), key(2, 0), key(65535, math.MaxInt64)}
	for a := range 1 << len(l) {
		for b := range 1 << len(l) {
			for _, p := range pairs {
				bits := 0
				for i := range l {
					if p.has(a>>i&1 == 1, b>>i&1 == 1) {
						bits |= 1 << i
					}
				}
				got, e := p.of(members(l, a), members(l, b))
				if want := members(l, bits); !slices.Equal(got, want) || e != api.OK {
					t.Errorf("%s of %v and %v is %v, %d", p.name, members(l, a), members(l, b), got, e)
				}
			}
		}
	}
}

// 2.8: a list that does not rise, on either side or on both.
func TestPairsRefuse(t *testing.T) {
	for _, p := range pairs {
		for _, a := range lists {
			for _, b := range lists {
				got, e := p.of(a.l, b.l)
				if a.rises && b.rises {
					if e != api.OK {
						t.Errorf("%s of %v and %v is %d", p.name, a.l, b.l, e)
					}
				} else if len(got) != 0 || e != api.ErrOrder {
					t.Errorf("%s of %v and %v is %v, %d", p.name, a.l, b.l, got, e)
				}
			}
		}
	}
}

// 2.1: what these calls are given stays as it is, and what they answer is new.
func TestSetsMemory(t *testing.T) {
	for _, c := range lists {
		l, same := marked(c.l)
		keys.Rises(l)
		keys.Find(l, key(1, 1))
		if got, e := keys.Sort(l); e == api.OK {
			spoil(got)
		}
		if !same() {
			t.Errorf("what was handed in, %v, was changed", c.l)
		}
		for _, other := range lists {
			for _, p := range pairs {
				m, still := marked(other.l)
				if got, e := p.of(l, m); e == api.OK {
					spoil(got)
				}
				if !same() || !still() {
					t.Errorf("%s has changed %v or %v", p.name, c.l, other.l)
				}
			}
		}
	}
	// Answers of the same are not the same memory, not even where the answer is the whole list.
	l := []api.Key{key(1, 1), key(2, 2)}
	for _, of := range []func() ([]api.Key, api.Errno){
		func() ([]api.Key, api.Errno) { return keys.Sort(l) },
		func() ([]api.Key, api.Errno) { return keys.Union(l, nil) },
		func() ([]api.Key, api.Errno) { return keys.Union(nil, l) },
		func() ([]api.Key, api.Errno) { return keys.Meet(l, l) },
		func() ([]api.Key, api.Errno) { return keys.Minus(l, nil) },
	} {
		first, _ := of()
		spoil(first)
		if second, e := of(); !slices.Equal(second, l) || e != api.OK {
			t.Errorf("the second answer is %v, %d", second, e)
		}
	}
}
