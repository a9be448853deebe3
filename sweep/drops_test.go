package sweep_test

import (
	"math"
	"math/rand"
	"slices"
	"testing"
	"time"

	"prelude/api"
	"prelude/sweep"
)

// versions is a chain of batches.
func versions(batches ...int) []api.Version {
	var list []api.Version
	for _, n := range batches {
		list = append(list, api.Version{Batch: n})
	}
	return list
}

// firstUpTo is the place of the first version of a chain whose Batch is not above n, -1 if there is none.
func firstUpTo(chain []api.Version, n int) int {
	return slices.IndexFunc(chain, func(v api.Version) bool { return v.Batch <= n })
}

// letter is 13.1 by the letter.
func letter(chain []api.Version, floor int, pins []int) []bool {
	var list []bool
	for i, v := range chain {
		kept := v.Batch > floor || firstUpTo(chain, floor) == i
		for _, n := range pins {
			kept = kept || firstUpTo(chain, n) == i
		}
		list = append(list, !kept)
	}
	return list
}

// marks is what Drops answers, as text: k for what is kept, d for what is dropped.
func marks(drops []bool) string {
	text := ""
	for _, d := range drops {
		if d {
			text += "d"
		} else {
			text += "k"
		}
	}
	return text
}

// 13.1, with examples 1 and 2.
func TestDrops(t *testing.T) {
	for _, c := range []struct {
		chain []api.Version
		floor int
		pins  []int
		want  string
	}{
		{versions(5, 4, 2, 1), 4, nil, "kkdd"},
		{versions(5, 4, 2, 1), 4, []int{1}, "kkdk"},
		{versions(5, 4, 2, 1), 4, []int{3, 2}, "kkkd"},
		{versions(5, 4, 2, 1), 0, nil, "kkkk"},
		{versions(5, 4, 2, 1), 9, nil, "kddd"},
		{versions(5, 2, 1), 3, nil, "kkd"},
		{versions(2, 2, 1), 2, nil, "kdd"},
		{versions(2, 2, 1), 2, []int{1}, "kdk"},
		{nil, 4, []int{1, 2}, ""},
		{[]api.Version{}, 4, nil, ""},
		{versions(7), 7, nil, "k"},
		{versions(7), 8, nil, "k"},
		{versions(7), 6, nil, "k"},
		{versions(7, 7, 7), 7, []int{7, 8, 6}, "kdd"},   // what the floor sees, a pin may see too
		{versions(5, 4, 3, 2, 1), 3, []int{4}, "kkkdd"}, // above the floor all is kept, pinned or not
		{versions(5, 4, 3, 2, 1), 3, []int{9}, "kkkdd"},
		{versions(5, 3, 1), 4, []int{2, 2, 2}, "kkk"},
		{versions(5, 3, 1), 4, []int{0}, "kkd"},
		{versions(5, 3, 1), -1, []int{0}, "kkk"},
		{versions(5, 3, 1), 5, []int{-1}, "kdd"},
		{versions(6, 4, 2), 6, []int{1, 3, 5}, "kkk"},
		{versions(6, 5, 4, 3, 2, 1), 6, []int{5, 1, 3}, "kkdkdk"},
		{versions(9, 8, 7, 6), 5, []int{5}, "kkkk"},
	} {
		if got := marks(sweep.Drops(c.chain, c.floor, c.pins)); got != c.want {
			t.Errorf("Drops(%v, %d, %v): %s, not %s", c.chain, c.floor, c.pins, got, c.want)
		}
	}
}

// lists is all lists of at most so many of some numbers, in any order.
func lists(most int, numbers ...int) [][]int {
	all := [][]int{nil}
	for from := 0; most > 0; most-- {
		end := len(all)
		for _, list := range all[from:end] {
			for _, n := range numbers {
				all = append(all, append(slices.Clone(list), n))
			}
		}
		from = end
	}
	return all
}

// 13.1: whatever the versions are: in any order too.
func TestDropsAllSmall(t *testing.T) {
	pins := lists(2, -1, 0, 1, 2, 3, 4)
	for _, batches := range lists(4, 0, 1, 2, 3) {
		chain := versions(batches...)
		for floor := -1; floor <= 4; floor++ {
			for _, list := range pins {
				if got, want := sweep.Drops(chain, floor, list), letter(chain, floor, list); !slices.Equal(got, want) {
					t.Fatalf("Drops of %v, %d, %v: %s, not %s", batches, floor, list, marks(got), marks(want))
				}
			}
		}
	}
}

// 13.1: at the ends of the numbers.
func TestDropsAtTheEnds(t *testing.T) {
	ends := []int{math.MinInt, math.MinInt + 1, 0, math.MaxInt - 1, math.MaxInt}
	pins := lists(2, ends...)
	for _, batches := range lists(3, ends...) {
		chain := versions(batches...)
		for _, floor := range ends {
			for _, list := range pins {
				if got, want := sweep.Drops(chain, floor, list), letter(chain, floor, list); !slices.Equal(got, want) {
					t.Fatalf("Drops of %v, %d, %v: %s, not %s", batches, floor, list, marks(got), marks(want))
				}
			}
		}
	}
}

// 13.1: by the letter, for longer chains, falling or not, and more pins; nothing of a version but its Batch counts, and nothing of the pins but which they are.
func TestDropsAny(t *testing.T) {
	r := rand.New(rand.NewSource(13))
	for range 4000 {
		var chain []api.Version
		for range r.Intn(30) {
			chain = append(chain, api.Version{Batch: r.Intn(25), Index: r.Intn(64), Filled: r.Intn(2) == 0, Cell: api.Cell{Is: r.Intn(2) == 0, Value: r.Int63()}})
		}
		if r.Intn(3) > 0 {
			slices.SortFunc(chain, func(a, b api.Version) int { return b.Batch - a.Batch })
		}
		var pins []int
		for range r.Intn(12) {
			pins = append(pins, r.Intn(30)-2)
		}
		floor := r.Intn(30) - 2
		want := letter(chain, floor, pins)
		if got := sweep.Drops(chain, floor, pins); !slices.Equal(got, want) {
			t.Fatalf("Drops(%v, %d, %v): %s, not %s", chain, floor, pins, marks(got), marks(want))
		}
		pins = append(pins, pins...)
		r.Shuffle(len(pins), func(i, j int) { pins[i], pins[j] = pins[j], pins[i] })
		if got := sweep.Drops(chain, floor, pins); !slices.Equal(got, want) {
			t.Fatalf("Drops(%v, %d, %v): %s, not %s: pins twice, in another order", chain, floor, pins, marks(got), marks(want))
		}
	}
}

// 13.1: many versions and many pins are no matter of hours.
func TestDropsMany(t *testing.T) {
	const n = 200000
	var chain []api.Version
	var pins []int
	for i := range n {
		chain = append(chain, api.Version{Batch: 2 * (n - i)})
		pins = append(pins, 4*((i*7919)%n)+1)
	}
	begun := time.Now()
	drops := sweep.Drops(chain, 2*n, pins)
	if took := time.Since(begun); took > 20*time.Second {
		t.Errorf("it took %v", took)
	}
	for i, d := range drops { // pins are 1, 5, 9, ..: they see the versions of 4, 8, ..
		if batch := chain[i].Batch; d != (batch%4 != 0) {
			t.Fatalf("batch %d: %v", batch, d)
		}
	}
}
