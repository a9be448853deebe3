package store_test

import (
	"fmt"
	"math"
	"slices"
	"strings"
	"testing"

	"prelude/api"
	"prelude/keys"
	"prelude/store"
)

// at is a key of table 0.
func at(row int64) api.Key { return api.Key{Row: row} }

// noKeys is what is no key.
var noKeys = []api.Key{{Table: -1}, {Table: -1, Row: 1}, {Table: api.MaxTable + 1}, {Table: math.MinInt}, {Table: math.MaxInt, Row: math.MaxInt64}}

// value is a cell with a value.
func value(v int64) api.Cell { return api.Cell{Is: true, Value: v} }

// made is a store without versions.
func made(t *testing.T, parts, capacity int) *store.Store {
	t.Helper()
	s, e := store.New(parts, capacity)
	if s == nil || e != api.OK {
		t.Fatalf("New(%d, %d): %v, %d", parts, capacity, s, e)
	}
	return s
}

// puts puts a version in, whose number must be v.
func puts(t *testing.T, s *store.Store, v int, k api.Key, batch, index int) {
	t.Helper()
	if got, e := s.Insert(k, batch, index); got != v || e != api.OK {
		t.Errorf("Insert(%v, %d, %d): %d, %d, not %d", k, batch, index, got, e, v)
	}
}

// refuses holds an Insert against the error that it must answer, and looks that nothing has changed.
func refuses(t *testing.T, s *store.Store, k api.Key, batch, index int, want api.Errno) {
	t.Helper()
	was := told(s, k, at(1), at(2))
	if got, e := s.Insert(k, batch, index); got != 0 || e != want {
		t.Errorf("Insert(%v, %d, %d): %d, %d, not error %d", k, batch, index, got, e, want)
	}
	if is := told(s, k, at(1), at(2)); is != was {
		t.Errorf("Insert(%v, %d, %d) has left %s, not %s", k, batch, index, is, was)
	}
}

// does holds the answer of a Fill or a Remove against the one that it must be.
func does(t *testing.T, call string, e, want api.Errno) {
	t.Helper()
	if e != want {
		t.Errorf("%s: %d, not %d", call, e, want)
	}
}

// looks holds a version against what it must be.
func looks(t *testing.T, s *store.Store, v int, k api.Key, want api.Version) {
	t.Helper()
	if got, e := s.Look(v); got != want || e != api.OK {
		t.Errorf("Look(%d): %v, %d, not %v", v, got, e, want)
	}
	if got, e := s.KeyOf(v); got != k || e != api.OK {
		t.Errorf("KeyOf(%d): %v, %d, not %v", v, got, e, k)
	}
}

// missing looks that there is no version of a number.
func missing(t *testing.T, s *store.Store, v int) {
	t.Helper()
	if got, e := s.Look(v); got != (api.Version{}) || e != api.ErrRef {
		t.Errorf("Look(%d): %v, %d", v, got, e)
	}
	if got, e := s.KeyOf(v); got != (api.Key{}) || e != api.ErrRef {
		t.Errorf("KeyOf(%d): %v, %d", v, got, e)
	}
	if got := s.Before(v); got != 0 {
		t.Errorf("Before(%d) is %d", v, got)
	}
	does(t, fmt.Sprintf("Fill(%d)", v), s.Fill(v, value(1)), api.ErrRef)
	does(t, fmt.Sprintf("Remove(%d)", v), s.Remove(v), api.ErrRef)
}

// runs holds a key's chain against the numbers of its versions, the newest first, by all calls that tell of it.
func runs(t *testing.T, s *store.Store, k api.Key, want ...int) {
	t.Helper()
	var got []int
	for v := s.Newest(k); v != 0; v = s.Before(v) {
		got = append(got, v)
	}
	if !slices.Equal(got, want) {
		t.Errorf("the chain of %v is %v, not %v", k, got, want)
	}
	var list []api.Version
	for _, v := range want {
		version, _ := s.Look(v)
		list = append(list, version)
		if own, e := s.KeyOf(v); own != k || e != api.OK {
			t.Errorf("KeyOf(%d): %v, %d, not %v", v, own, e, k)
		}
	}
	if chain := s.Chain(k); !slices.Equal(chain, list) {
		t.Errorf("Chain(%v): %v, not %v", k, chain, list)
	}
	has := slices.Contains(s.Keys(s.Part(k)), k)
	if has != (len(want) > 0) {
		t.Errorf("Keys tells %v of %v", has, k)
	}
}

// sees holds what is visible of a key at a batch against the number that it must be.
func sees(t *testing.T, s *store.Store, k api.Key, batch, want int) {
	t.Helper()
	if got := s.Visible(k, batch); got != want {
		t.Errorf("Visible(%v, %d) is %d, not %d", k, batch, got, want)
	}
}

// counts holds Live and Room against what they must be.
func counts(t *testing.T, s *store.Store, live, room int) {
	t.Helper()
	if s.Live() != live || s.Room() != room {
		t.Errorf("Live %d, Room %d, not %d, %d", s.Live(), s.Room(), live, room)
	}
}

// told is the text of all that a store tells of itself and of these keys, but the number to come.
func told(s *store.Store, ks ...api.Key) string {
	var b strings.Builder
	fmt.Fprint(&b, s.Parts(), s.Live(), s.Room())
	for _, k := range ks {
		fmt.Fprint(&b, "; ", k, s.Part(k), s.Newest(k), s.Chain(k))
		for v := s.Newest(k); v != 0; v = s.Before(v) {
			version, e := s.Look(v)
			own, e2 := s.KeyOf(v)
			fmt.Fprint(&b, " ", v, version, e, own, e2, s.Visible(k, version.Batch))
		}
	}
	for part := range s.Parts() {
		fmt.Fprint(&b, s.Keys(part))
	}
	return b.String()
}

// Examples 1 to 5.
func TestExamples(t *testing.T) {
	s := made(t, 4, 3)
	if s.Parts() != 4 || s.Newest(at(1)) != 0 || len(s.Chain(at(1))) != 0 {
		t.Errorf("example 1: %s", told(s, at(1)))
	}
	counts(t, s, 0, 3)

	puts(t, s, 1, at(1), 1, 0)
	refuses(t, s, at(1), 1, 0, api.ErrStale)
	puts(t, s, 2, at(1), 1, 2)
	puts(t, s, 3, at(2), 3, 0)
	refuses(t, s, at(2), 4, 0, api.ErrFull)
	refuses(t, s, at(2), 3, 0, api.ErrFull)
	refuses(t, s, at(2), 0, 0, api.ErrBatch)
	refuses(t, s, at(2), 1, 64, api.ErrIndex)
	refuses(t, s, api.Key{Table: -1}, 0, 0, api.ErrKey)

	runs(t, s, at(1), 2, 1)
	runs(t, s, at(2), 3)
	sees(t, s, at(1), 1, 2)
	sees(t, s, at(1), 0, 0)
	sees(t, s, at(2), 2, 0)
	sees(t, s, at(2), 3, 3)
	sees(t, s, at(2), 1099511627776, 3)

	does(t, "Fill(1)", s.Fill(1, value(5)), api.OK)
	does(t, "Fill(1) again", s.Fill(1, value(6)), api.ErrFilled)
	does(t, "Fill(9)", s.Fill(9, value(6)), api.ErrRef)
	does(t, "Fill(2)", s.Fill(2, api.Cell{Value: 7}), api.OK)
	looks(t, s, 1, at(1), api.Version{Batch: 1, Filled: true, Cell: value(5)})
	looks(t, s, 2, at(1), api.Version{Batch: 1, Index: 2, Filled: true})
	looks(t, s, 3, at(2), api.Version{Batch: 3})

	does(t, "Remove(2)", s.Remove(2), api.OK)
	runs(t, s, at(1), 1)
	missing(t, s, 2)
	counts(t, s, 2, 1)
	puts(t, s, 4, at(1), 1, 1)
	missing(t, s, 2)
	runs(t, s, at(1), 4, 1)
}

// 9.1: the numbers of partitions and the capacities that there may be, and no others; the partitions are asked first.
func TestNew(t *testing.T) {
	noParts := []int{math.MinInt, -1, 0, api.MaxParts + 1, math.MaxInt}
	noCapacity := []int{math.MinInt, -1, 0, api.MaxCapacity + 1, math.MaxInt}
	for _, parts := range noParts {
		for _, capacity := range append(noCapacity, 1, api.MaxCapacity) {
			if s, e := store.New(parts, capacity); s != nil || e != api.ErrParts {
				t.Errorf("New(%d, %d): %v, %d", parts, capacity, s, e)
			}
		}
	}
	for _, parts := range []int{1, 2, 255, api.MaxParts} {
		for _, capacity := range noCapacity {
			if s, e := store.New(parts, capacity); s != nil || e != api.ErrCapacity {
				t.Errorf("New(%d, %d): %v, %d", parts, capacity, s, e)
			}
		}
		for _, capacity := range []int{1, 2, api.MaxCapacity} {
			s := made(t, parts, capacity)
			if s.Parts() != parts {
				t.Errorf("Parts is %d, not %d", s.Parts(), parts)
			}
			counts(t, s, 0, capacity)
			runs(t, s, at(1))
			missing(t, s, 1)
			for part := range parts {
				if ks := s.Keys(part); len(ks) != 0 {
					t.Errorf("Keys(%d): %v", part, ks)
				}
			}
		}
	}
}

// 9.1: a key's partition is that of chapter 2, whether it has versions or not.
func TestPart(t *testing.T) {
	for _, parts := range []int{1, 2, 7, 255, api.MaxParts} {
		s := made(t, parts, 100)
		for _, k := range []api.Key{{}, {Row: 1}, {Row: -1}, {Table: 1}, {Table: api.MaxTable, Row: math.MinInt64}, {Table: 300, Row: math.MaxInt64}} {
			want, e := keys.Partition(k, parts)
			if got := s.Part(k); got != want || e != api.OK {
				t.Errorf("Part(%v) of %d is %d, not %d", k, parts, got, want)
			}
			s.Insert(k, 1, 0)
			if got := s.Part(k); got != want || !slices.Contains(s.Keys(want), k) {
				t.Errorf("Part(%v) of %d is %d, not %d", k, parts, got, want)
			}
		}
		for _, k := range noKeys {
			if got := s.Part(k); got != 0 {
				t.Errorf("Part(%v) of %d is %d", k, parts, got)
			}
		}
	}
}

// 9.2: the first error that applies, at the edges of each number.
func TestInsertRefuses(t *testing.T) {
	s := made(t, 4, 3)
	puts(t, s, 1, at(1), 5, 7)
	badBatch := []int{math.MinInt, -1, 0, api.MaxNumber + 1, math.MaxInt}
	badIndex := []int{math.MinInt, -1, api.MaxTxs, math.MaxInt}
	for _, room := range []bool{true, false} {
		stale := api.ErrStale
		if !room {
			puts(t, s, 2, at(1), 5, 8)
			puts(t, s, 3, at(2), 5, 8)
			stale = api.ErrFull
		}
		for _, batch := range append(badBatch, 5, 6) {
			for _, index := range append(badIndex, 0, 7, 9) {
				for _, k := range noKeys {
					refuses(t, s, k, batch, index, api.ErrKey)
				}
				if slices.Contains(badBatch, batch) {
					refuses(t, s, at(1), batch, index, api.ErrBatch)
				} else if slices.Contains(badIndex, index) {
					refuses(t, s, at(1), batch, index, api.ErrIndex)
				}
			}
		}
		for _, p := range []api.Place{{Batch: 5, Index: 7}, {Batch: 5, Index: 6}, {Batch: 5}, {Batch: 4, Index: 63}, {Batch: 1}} {
			refuses(t, s, at(1), p.Batch, p.Index, stale)
		}
	}
	for _, k := range []api.Key{at(1), at(2), at(3)} {
		refuses(t, s, k, 6, 0, api.ErrFull)
	}
	does(t, "Remove(1)", s.Remove(1), api.OK)
	puts(t, s, 4, at(3), 1, 0)
}

// 9.2: the least and the greatest places and keys.
func TestInsertTakes(t *testing.T) {
	s := made(t, 3, 100)
	n := 0
	for _, k := range []api.Key{{}, {Row: math.MinInt64}, {Table: api.MaxTable, Row: math.MaxInt64}, {Table: api.MaxTable}} {
		first := n
		for _, p := range []api.Place{{Batch: 1}, {Batch: 1, Index: 1}, {Batch: 1, Index: 63}, {Batch: 2}, {Batch: 2, Index: 63}, {Batch: 7, Index: 5}, {Batch: api.MaxNumber}, {Batch: api.MaxNumber, Index: 63}} {
			n++
			puts(t, s, n, k, p.Batch, p.Index)
			looks(t, s, n, k, api.Version{Batch: p.Batch, Index: p.Index})
			if s.Newest(k) != n {
				t.Errorf("Newest(%v) is %d, not %d", k, s.Newest(k), n)
			}
		}
		runs(t, s, k, n, n-1, n-2, n-3, n-4, n-5, n-6, first+1)
		refuses(t, s, k, api.MaxNumber, 63, api.ErrStale)
	}
	counts(t, s, n, 100-n)
}

// 9.2: what is stale hangs on the versions that are there, and on those of the key alone.
func TestStale(t *testing.T) {
	s := made(t, 1, 8)
	puts(t, s, 1, at(1), 5, 5)
	puts(t, s, 2, at(2), 1, 0)
	puts(t, s, 3, at(3), 5, 5)
	puts(t, s, 4, at(1), 9, 0)
	refuses(t, s, at(1), 8, 0, api.ErrStale)
	does(t, "Remove(4)", s.Remove(4), api.OK)
	puts(t, s, 5, at(1), 8, 0)
	does(t, "Remove(1)", s.Remove(1), api.OK)
	refuses(t, s, at(1), 6, 0, api.ErrStale)
	does(t, "Remove(5)", s.Remove(5), api.OK)
	puts(t, s, 6, at(1), 1, 0)
	runs(t, s, at(1), 6)
	runs(t, s, at(2), 2)
	runs(t, s, at(3), 3)
}

// 9.2: numbers go up by one, and none comes again; a refused Insert uses up none.
func TestNumbers(t *testing.T) {
	s := made(t, 2, 1)
	for n := range 200 {
		puts(t, s, n+1, at(int64(n%3)), 1+n%2, 0)
		refuses(t, s, at(1), 1, 0, api.ErrFull)
		refuses(t, s, at(1), 0, 0, api.ErrBatch)
		does(t, "Remove", s.Remove(n+1), api.OK)
		missing(t, s, n+1)
		missing(t, s, n)
	}
	missing(t, s, 1)
}

// 9.3: a version is filled once; of a cell that is nothing the value is not looked at.
func TestFill(t *testing.T) {
	cells := []api.Cell{{}, {Value: 7}, {Value: math.MinInt64}, value(0), value(-1), value(math.MaxInt64), value(math.MinInt64)}
	s := made(t, 4, 20)
	for i, c := range cells {
		v := i + 1
		puts(t, s, v, at(1), v, i)
		looks(t, s, v, at(1), api.Version{Batch: v, Index: i})
		does(t, "Fill", s.Fill(v, c), api.OK)
		want := api.Version{Batch: v, Index: i, Filled: true, Cell: c}
		if !c.Is {
			want.Cell = api.Cell{}
		}
		looks(t, s, v, at(1), want)
		for _, again := range cells {
			does(t, "Fill again", s.Fill(v, again), api.ErrFilled)
			looks(t, s, v, at(1), want)
		}
		if chain := s.Chain(at(1)); chain[0] != want {
			t.Errorf("Chain: %v, not %v", chain[0], want)
		}
	}
	counts(t, s, len(cells), 20-len(cells))
}

// 9.3: versions may be filled in any order, and others don't see it.
func TestFillAnyOrder(t *testing.T) {
	s := made(t, 4, 20)
	puts(t, s, 1, at(1), 1, 0)
	puts(t, s, 2, at(2), 1, 0)
	puts(t, s, 3, at(1), 2, 0)
	puts(t, s, 4, at(1), 3, 0)
	does(t, "Fill(3)", s.Fill(3, value(30)), api.OK)
	runs(t, s, at(1), 4, 3, 1)
	looks(t, s, 1, at(1), api.Version{Batch: 1})
	looks(t, s, 2, at(2), api.Version{Batch: 1})
	looks(t, s, 4, at(1), api.Version{Batch: 3})
	does(t, "Fill(1)", s.Fill(1, value(10)), api.OK)
	looks(t, s, 1, at(1), api.Version{Batch: 1, Filled: true, Cell: value(10)})
	looks(t, s, 3, at(1), api.Version{Batch: 2, Filled: true, Cell: value(30)})
}

// 9.3 to 9.6: what is no version's number.
func TestNoVersion(t *testing.T) {
	s := made(t, 4, 20)
	puts(t, s, 1, at(1), 1, 0)
	puts(t, s, 2, at(1), 2, 0)
	was := told(s, at(1))
	for _, v := range []int{math.MinInt, -2, -1, 0, 3, 1 << 32, 1<<32 + 1, math.MaxInt} {
		missing(t, s, v)
	}
	if is := told(s, at(1)); is != was {
		t.Errorf("it is %s, not %s", is, was)
	}
}

// 9.5: what is visible, at each batch around those of a chain; several versions of one batch among them.
func TestVisible(t *testing.T) {
	s := made(t, 4, 20)
	puts(t, s, 1, at(1), 3, 0)
	puts(t, s, 2, at(1), 3, 5)
	puts(t, s, 3, at(1), 3, 63)
	puts(t, s, 4, at(1), 4, 0)
	puts(t, s, 5, at(2), 5, 0)
	puts(t, s, 6, at(1), 7, 1)
	puts(t, s, 7, at(1), 7, 2)
	puts(t, s, 8, at(1), api.MaxNumber, 0)
	for batch, want := range map[int]int{math.MinInt: 0, -1: 0, 0: 0, 1: 0, 2: 0, 3: 3, 4: 4, 5: 4, 6: 4, 7: 7, 8: 7, api.MaxNumber - 1: 7, api.MaxNumber: 8, api.MaxNumber + 1: 8, math.MaxInt: 8} {
		sees(t, s, at(1), batch, want)
		sees(t, s, at(3), batch, 0)
		for _, k := range noKeys {
			sees(t, s, k, batch, 0)
		}
	}
	does(t, "Remove(3)", s.Remove(3), api.OK)
	does(t, "Remove(6)", s.Remove(6), api.OK)
	for batch, want := range map[int]int{2: 0, 3: 2, 4: 4, 6: 4, 7: 7, 8: 7} {
		sees(t, s, at(1), batch, want)
	}
	does(t, "Remove(4)", s.Remove(4), api.OK)
	does(t, "Remove(7)", s.Remove(7), api.OK)
	for batch, want := range map[int]int{2: 0, 3: 2, 4: 2, 6: 2, 7: 2, api.MaxNumber: 8} {
		sees(t, s, at(1), batch, want)
	}
}

// 9.5, 9.7: of what is no key there is nothing.
func TestNoKey(t *testing.T) {
	s := made(t, 4, 20)
	puts(t, s, 1, at(1), 1, 0)
	for _, k := range noKeys {
		if s.Newest(k) != 0 || s.Visible(k, 1) != 0 || len(s.Chain(k)) != 0 {
			t.Errorf("of %v: %d, %d, %v", k, s.Newest(k), s.Visible(k, 1), s.Chain(k))
		}
	}
}

// 9.6: any version may be taken out, from any place in its chain, filled or not; the others stay.
func TestRemove(t *testing.T) {
	for size := 1; size <= 7; size++ {
		for gone := 1; gone <= size; gone++ {
			for _, full := range []bool{false, true} {
				s := made(t, 4, 20)
				var left []int
				for v := 1; v <= size; v++ {
					puts(t, s, v, at(1), v, 0)
					if v%2 == 0 || full && v == gone {
						does(t, "Fill", s.Fill(v, value(int64(v))), api.OK)
					}
					if v != gone {
						left = append([]int{v}, left...)
					}
				}
				puts(t, s, size+1, at(2), 1, 0)
				does(t, "Remove", s.Remove(gone), api.OK)
				runs(t, s, at(1), left...)
				runs(t, s, at(2), size+1)
				missing(t, s, gone)
				counts(t, s, size, 20-size)
				for _, v := range left {
					want := api.Version{Batch: v}
					if v%2 == 0 {
						want.Filled, want.Cell = true, value(int64(v))
					}
					looks(t, s, v, at(1), want)
					sees(t, s, at(1), v, v)
				}
				puts(t, s, size+2, at(1), size+1, 0)
				runs(t, s, at(1), append([]int{size + 2}, left...)...)
			}
		}
	}
}

// 9.7: the keys of a partition are a set, in whatever order they came; there are no other partitions.
func TestKeys(t *testing.T) {
	for _, parts := range []int{1, 2, 5, api.MaxParts} {
		s := made(t, parts, 1000)
		var all []api.Key
		for i := range 300 {
			k := api.Key{Table: (i * 37) % 11, Row: int64((i*101)%300) - 150}
			all = append(all, k)
			puts(t, s, 2*i+1, k, 1, 0)
			puts(t, s, 2*i+2, k, 2, 0)
		}
		var none []api.Key
		for i, k := range all {
			if i%3 == 0 {
				s.Remove(2*i + 1)
				s.Remove(2*i + 2)
				none = append(none, k)
			} else if i%3 == 1 {
				s.Remove(2*i + 2)
			}
		}
		set, _ := keys.Sort(slices.DeleteFunc(slices.Clone(all), func(k api.Key) bool { return slices.Contains(none, k) }))
		split, _ := keys.Split(set, parts)
		for part, want := range split {
			if got := s.Keys(part); !slices.Equal(got, want) {
				t.Errorf("Keys(%d) of %d: %v, not %v", part, parts, got, want)
			}
		}
		for _, part := range []int{math.MinInt, -parts, -1, parts, parts + 1, math.MaxInt} {
			if got := s.Keys(part); len(got) != 0 {
				t.Errorf("there is no partition %d of %d: %v", part, parts, got)
			}
		}
	}
}

// 9.8: there is room for as many as the capacity says, the greatest one too, and for no more; and it comes back.
func TestCapacity(t *testing.T) {
	for _, capacity := range []int{1, 2, 100, api.MaxCapacity} {
		for _, oneKey := range []bool{true, false} {
			s := made(t, 16, capacity)
			for i := range capacity {
				k, batch := at(1), i+1
				if !oneKey {
					k = at(int64(i))
				}
				if v, e := s.Insert(k, batch, 0); v != i+1 || e != api.OK || s.Live() != i+1 || s.Room() != capacity-i-1 {
					t.Fatalf("Insert %d of %d: %d, %d, Live %d, Room %d", i+1, capacity, v, e, s.Live(), s.Room())
				}
			}
			if v, e := s.Insert(at(1), capacity+1, 0); v != 0 || e != api.ErrFull {
				t.Errorf("one more than %d: %d, %d", capacity, v, e)
			}
			for v := 1; v <= capacity; v++ {
				if got := s.Visible(at(int64(1)), v); oneKey && got != v {
					t.Fatalf("Visible at %d: %d", v, got)
				}
			}
			for v := 1; v <= capacity; v++ {
				if e := s.Remove(v); e != api.OK || s.Room() != v {
					t.Fatalf("Remove(%d): %d, Room %d", v, e, s.Room())
				}
			}
			counts(t, s, 0, capacity)
			puts(t, s, capacity+1, at(1), 1, 0)
		}
	}
}

// 9.7: what only tells changes nothing.
func TestTells(t *testing.T) {
	s := made(t, 4, 5)
	puts(t, s, 1, at(1), 1, 0)
	puts(t, s, 2, at(2), 1, 0)
	puts(t, s, 3, at(1), 2, 0)
	does(t, "Fill(1)", s.Fill(1, value(5)), api.OK)
	was := told(s, at(1), at(2), at(3))
	for range 3 {
		if is := told(s, at(1), at(2), at(3)); is != was {
			t.Errorf("it is %s, not %s", is, was)
		}
	}
	puts(t, s, 4, at(3), 1, 0)
}
