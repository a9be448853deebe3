package keys_test

import (
	"math"
	"testing"

	"prelude/api"
	"prelude/keys"
)

// key is a key, or something that is none.
func key(table int, row int64) api.Key { return api.Key{Table: table, Row: row} }

// ladder is api.Keys in their order, at the edges of tables and rows; those of tables below 0 or above 65535 are no keys.
func ladder() []api.Key {
	var l []api.Key
	for _, table := range []int{math.MinInt, math.MinInt + 1, -65536, -2, -1, 0, 1, 2, 9, 10, 255, 256, 257, 32767, 32768, 65534, 65535, 65536, 65537, 131071, 131072, 1 << 32, math.MaxInt - 1, math.MaxInt} {
		for _, row := range []int64{math.MinInt64, math.MinInt64 + 1, -1 << 32, -257, -256, -255, -10, -9, -2, -1, 0, 1, 2, 9, 10, 127, 128, 255, 256, 1 << 31, 1 << 32, math.MaxInt64 - 1, math.MaxInt64} {
			l = append(l, key(table, row))
		}
	}
	return l
}

// rungs is those of the ladder that are keys.
func rungs() []api.Key {
	var l []api.Key
	for _, k := range ladder() {
		if k.Table >= 0 && k.Table <= 65535 {
			l = append(l, k)
		}
	}
	return l
}

// noKeys is those of the ladder that are none.
func noKeys() []api.Key {
	var l []api.Key
	for _, k := range ladder() {
		if k.Table < 0 || k.Table > 65535 {
			l = append(l, k)
		}
	}
	return l
}

// 2.2: Check, the chapter's example and the edges of a table.
func TestCheck(t *testing.T) {
	for _, k := range []api.Key{key(0, -5), key(0, 0), key(65535, 0), key(0, math.MinInt64), key(65535, math.MaxInt64), key(1, -1)} {
		if e := keys.Check(k); e != api.OK {
			t.Errorf("Check(%v) is %d", k, e)
		}
	}
	for _, k := range []api.Key{key(65536, 0), key(-1, 0), key(math.MinInt, 0), key(math.MaxInt, 0), key(1<<32, 0), key(-65535, 5), key(65536, math.MinInt64)} {
		if e := keys.Check(k); e != api.ErrKey {
			t.Errorf("Check(%v) is %d", k, e)
		}
	}
	for _, k := range rungs() {
		if e := keys.Check(k); e != api.OK {
			t.Errorf("Check(%v) is %d", k, e)
		}
	}
	for _, k := range noKeys() {
		if e := keys.Check(k); e != api.ErrKey {
			t.Errorf("Check(%v) is %d", k, e)
		}
	}
}

// 2.2: Compare, the chapter's example.
func TestCompare(t *testing.T) {
	for _, c := range []struct {
		a, b api.Key
		want int
	}{
		{key(1, 9), key(2, -9), -1},
		{key(2, -9), key(2, 9), -1},
		{key(-1, 0), key(-1, 0), 0},
		{key(2, -9), key(1, 9), 1},
		{key(2, 9), key(2, -9), 1},
		{key(3, 4), key(3, 4), 0},
		{key(-1, 5), key(0, -5), -1},
		{key(65536, 0), key(65535, 9), 1},
	} {
		if got := keys.Compare(c.a, c.b); got != c.want {
			t.Errorf("Compare(%v, %v) is %d", c.a, c.b, got)
		}
	}
}

// 2.2, 2.11: Compare of any two, keys or not, is their order on the ladder; so it is one order.
func TestCompareIsOneOrder(t *testing.T) {
	l := ladder()
	for i, a := range l {
		for j, b := range l {
			want := 0
			if i < j {
				want = -1
			} else if i > j {
				want = 1
			}
			if got := keys.Compare(a, b); got != want {
				t.Errorf("Compare(%v, %v) is %d", a, b, got)
			}
		}
	}
}
