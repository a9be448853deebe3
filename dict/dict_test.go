package dict_test

import (
	"math"
	"slices"
	"testing"

	"prelude/api"
	"prelude/dict"
)

// pair is a key and its value.
type pair struct {
	key   int
	value string
}

// ten is the hash function of the chapter's examples.
func ten(k int) uint64 { return uint64(k) % 10 }

// made is a Dict without keys.
func made(t *testing.T, parts int, hash func(int) uint64) *dict.Dict[int, string] {
	t.Helper()
	d, e := dict.New[int, string](parts, hash)
	if e != api.OK || d == nil {
		t.Fatalf("New(%d): %v, %d", parts, d, e)
	}
	return d
}

// pairs is what the iterator of a partition gives.
func pairs(d *dict.Dict[int, string], part int) []pair {
	var list []pair
	for k, v := range d.Each(part) {
		list = append(list, pair{k, v})
	}
	return list
}

// says holds an answer of Put, Get or Take against the one that is asked for.
func says(t *testing.T, call string, v string, is bool, wantV string, want bool) {
	t.Helper()
	if v != wantV || is != want {
		t.Errorf("%s: %q, %v, not %q, %v", call, v, is, wantV, want)
	}
}

// holds holds a partition against the pairs that it must have, by all calls that tell of it.
func holds(t *testing.T, d *dict.Dict[int, string], part int, want ...pair) {
	t.Helper()
	var ks []int
	for _, p := range want {
		ks = append(ks, p.key)
		v, is := d.Get(p.key)
		says(t, "Get", v, is, p.value, true)
		if d.Part(p.key) != part {
			t.Errorf("Part(%d) is %d, not %d", p.key, d.Part(p.key), part)
		}
	}
	if got := pairs(d, part); !slices.Equal(got, want) {
		t.Errorf("Each(%d): %v, not %v", part, got, want)
	}
	if got := d.Keys(part); !slices.Equal(got, ks) {
		t.Errorf("Keys(%d): %v, not %v", part, got, ks)
	}
	if got := d.Size(part); got != len(want) {
		t.Errorf("Size(%d) is %d, not %d", part, got, len(want))
	}
}

// 7.1: the numbers of partitions that there may be, and no other.
func TestNewParts(t *testing.T) {
	for _, parts := range []int{math.MinInt, -256, -1, 0, 257, 512, math.MaxInt} {
		for _, hash := range []func(int) uint64{ten, nil} {
			if d, e := dict.New[int, string](parts, hash); d != nil || e != api.ErrParts {
				t.Errorf("New(%d): %v, %d", parts, d, e)
			}
		}
	}
	for _, parts := range []int{1, 2, 255, 256} {
		d := made(t, parts, ten)
		if d.Len() != 0 {
			t.Errorf("New(%d) has %d keys", parts, d.Len())
		}
		for part := range parts {
			holds(t, d, part)
		}
	}
}

// 7.1, example 5: without a hash function the hash of every key is 0.
func TestNoHash(t *testing.T) {
	d := made(t, 256, nil)
	d.Put(7, "a")
	d.Put(-3, "b")
	d.Put(math.MaxInt, "c")
	holds(t, d, 0, pair{7, "a"}, pair{-3, "b"}, pair{math.MaxInt, "c"})
	if d.Part(99) != 0 || d.Len() != 3 {
		t.Errorf("Part(99) is %d, Len %d", d.Part(99), d.Len())
	}
}

// Example 5: with one partition every key is in it.
func TestOnePart(t *testing.T) {
	d := made(t, 1, ten)
	for _, k := range []int{8, 3, 5} {
		d.Put(k, "x")
	}
	holds(t, d, 0, pair{8, "x"}, pair{3, "x"}, pair{5, "x"})
}

// Examples 1 to 4.
func TestExamples(t *testing.T) {
	d := made(t, 4, ten)
	if d.Part(7) != 3 || d.Part(12) != 2 || d.Len() != 0 {
		t.Errorf("example 1: %d, %d, %d", d.Part(7), d.Part(12), d.Len())
	}
	v, is := d.Get(7)
	says(t, "Get(7)", v, is, "", false)

	v, is = d.Put(7, "a")
	says(t, "Put(7, a)", v, is, "", false)
	v, is = d.Put(3, "b")
	says(t, "Put(3, b)", v, is, "", false)
	v, is = d.Put(7, "c")
	says(t, "Put(7, c)", v, is, "a", true)
	holds(t, d, 3, pair{7, "c"}, pair{3, "b"})
	if d.Size(0) != 0 || d.Size(4) != 0 || d.Size(-1) != 0 {
		t.Errorf("example 2: sizes %d, %d, %d", d.Size(0), d.Size(4), d.Size(-1))
	}

	v, is = d.Take(7)
	says(t, "Take(7)", v, is, "c", true)
	v, is = d.Take(7)
	says(t, "Take(7) again", v, is, "", false)
	v, is = d.Put(7, "d")
	says(t, "Put(7, d)", v, is, "", false)
	holds(t, d, 3, pair{3, "b"}, pair{7, "d"})

	elder := d.Each(3)
	d.Take(3)
	d.Clear()
	var got []pair
	for k, v := range elder {
		got = append(got, pair{k, v})
	}
	if !slices.Equal(got, []pair{{3, "b"}, {7, "d"}}) {
		t.Errorf("example 4: %v", got)
	}
	holds(t, d, 3)
	if d.Len() != 0 {
		t.Errorf("example 4: Len %d", d.Len())
	}
}

// 7.2: a hash is a number without sign, also where it has the top bit.
func TestPart(t *testing.T) {
	for _, parts := range []int{1, 2, 3, 10, 255, 256} {
		d := made(t, parts, func(k int) uint64 { return uint64(k) })
		for _, k := range []int{0, 1, 2, 9, 255, 256, 257, -1, -2, math.MaxInt, math.MinInt} {
			want := int(uint64(k) % uint64(parts))
			for _, when := range []string{"new", "put", "taken"} {
				switch when {
				case "put":
					d.Put(k, when)
					if !slices.Contains(d.Keys(want), k) {
						t.Errorf("%d is not in partition %d of %d", k, want, parts)
					}
				case "taken":
					d.Take(k)
				}
				if got := d.Part(k); got != want {
					t.Errorf("Part(%d) of %d, %s: %d, not %d", k, parts, when, got, want)
				}
			}
		}
	}
}

// 7.2: keys stand in the order in which they came.
func TestOrder(t *testing.T) {
	d := made(t, 3, nil)
	for i, k := range []int{5, 1, 9, 4} {
		d.Put(k, string(rune('a'+i)))
	}
	holds(t, d, 0, pair{5, "a"}, pair{1, "b"}, pair{9, "c"}, pair{4, "d"})
	d.Put(5, "e")
	d.Put(9, "f")
	d.Put(4, "g")
	holds(t, d, 0, pair{5, "e"}, pair{1, "b"}, pair{9, "f"}, pair{4, "g"})
	d.Take(1)
	holds(t, d, 0, pair{5, "e"}, pair{9, "f"}, pair{4, "g"})
	d.Put(1, "h")
	holds(t, d, 0, pair{5, "e"}, pair{9, "f"}, pair{4, "g"}, pair{1, "h"})
	d.Take(5)
	d.Put(5, "i")
	holds(t, d, 0, pair{9, "f"}, pair{4, "g"}, pair{1, "h"}, pair{5, "i"})
	d.Take(5)
	d.Put(5, "j")
	holds(t, d, 0, pair{9, "f"}, pair{4, "g"}, pair{1, "h"}, pair{5, "j"})
	for _, k := range []int{4, 5, 9, 1} {
		d.Take(k)
	}
	holds(t, d, 0)
	d.Put(1, "k")
	d.Put(9, "l")
	holds(t, d, 0, pair{1, "k"}, pair{9, "l"})
}

// 7.2: the order is a partition's own.
func TestOrderOfEach(t *testing.T) {
	d := made(t, 2, func(k int) uint64 { return uint64(k) })
	for _, k := range []int{4, 1, 2, 3} {
		d.Put(k, "a")
	}
	d.Take(4)
	d.Take(3)
	d.Put(3, "b")
	d.Put(4, "b")
	holds(t, d, 0, pair{2, "a"}, pair{4, "b"})
	holds(t, d, 1, pair{1, "a"}, pair{3, "b"})
}

// 7.3: a value that is a zero value is there all the same.
func TestZeroValue(t *testing.T) {
	d := made(t, 4, ten)
	v, is := d.Put(0, "")
	says(t, "Put", v, is, "", false)
	v, is = d.Get(0)
	says(t, "Get", v, is, "", true)
	v, is = d.Put(0, "a")
	says(t, "Put", v, is, "", true)
	v, is = d.Put(0, "")
	says(t, "Put", v, is, "a", true)
	v, is = d.Take(0)
	says(t, "Take", v, is, "", true)
	v, is = d.Get(0)
	says(t, "Get", v, is, "", false)
	v, is = d.Take(0)
	says(t, "Take", v, is, "", false)
}

// 7.3: to ask for a key that is not there, or to take it, changes nothing.
func TestNotThere(t *testing.T) {
	d := made(t, 4, ten)
	d.Put(3, "a")
	d.Put(7, "b")
	for _, k := range []int{13, 0, -1} {
		v, is := d.Get(k)
		says(t, "Get", v, is, "", false)
		v, is = d.Take(k)
		says(t, "Take", v, is, "", false)
	}
	holds(t, d, 3, pair{3, "a"}, pair{7, "b"})
	if d.Len() != 2 {
		t.Errorf("Len %d", d.Len())
	}
}

// 7.4: Len counts the keys of all partitions, Size those of one; there are no others.
func TestLenAndSize(t *testing.T) {
	d := made(t, 4, ten)
	for k := range 30 {
		d.Put(k, "a")
		d.Put(k, "b")
		if d.Len() != k+1 {
			t.Errorf("Len %d behind %d keys", d.Len(), k+1)
		}
	}
	for part, want := range []int{9, 9, 6, 6} {
		if d.Size(part) != want {
			t.Errorf("Size(%d) is %d, not %d", part, d.Size(part), want)
		}
	}
	for _, part := range []int{math.MinInt, -4, -1, 4, 5, 256, math.MaxInt} {
		if d.Size(part) != 0 || len(d.Keys(part)) != 0 || len(pairs(d, part)) != 0 {
			t.Errorf("there is no partition %d: %d, %v, %v", part, d.Size(part), d.Keys(part), pairs(d, part))
		}
	}
	d.Take(0)
	d.Take(0)
	if d.Len() != 29 || d.Size(0) != 8 {
		t.Errorf("Len %d, Size(0) %d", d.Len(), d.Size(0))
	}
}

// 7.4: Clear takes all keys out, and the Dict goes on with its hash and its partitions.
func TestClear(t *testing.T) {
	d := made(t, 4, ten)
	d.Clear()
	for k := range 30 {
		d.Put(k, "a")
	}
	d.Clear()
	if d.Len() != 0 {
		t.Errorf("Len %d", d.Len())
	}
	for part := range 4 {
		holds(t, d, part)
	}
	for k := range 30 {
		v, is := d.Get(k)
		says(t, "Get", v, is, "", false)
		v, is = d.Take(k)
		says(t, "Take", v, is, "", false)
	}
	if d.Part(7) != 3 {
		t.Errorf("Part(7) is %d", d.Part(7))
	}
	d.Put(7, "b")
	v, is := d.Put(3, "c")
	says(t, "Put", v, is, "", false)
	holds(t, d, 3, pair{7, "b"}, pair{3, "c"})
	d.Clear()
	d.Clear()
	holds(t, d, 3)
}
