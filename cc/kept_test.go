package cc

import (
	"testing"

	"prelude/api"
	"prelude/store"
)

// 11.3, 11.4, 11.5: of what is laid, forgotten and freed nothing is kept that nobody can ask for.
func TestNothingKept(t *testing.T) {
	st, _ := store.New(4, 100)
	b, _ := New(st, 3, 2, 0)
	for n := 1; n <= 200; n++ {
		k := api.Key{Row: int64(n)}
		b.Post([]api.Tx{{Reads: []api.Key{k}, Writes: []api.Key{k}}})
		b.Hold()
		for w := range 3 {
			for b.Step(w) {
			}
		}
		if s := b.sheets[n]; s.acts != nil || b.Laid() != n {
			t.Fatalf("behind batch %d: %v, Laid %d", n, s.acts, b.Laid())
		}
		p, _ := b.Next()
		b.Claim(p, 0)
		b.Finish(p, api.Outcome{})
		b.Free()
		st.Remove(n)
		b.Forget(n - 1)
		if len(b.sheets) != 1 || len(b.holds) != 0 || cap(b.holds) > 8 {
			t.Fatalf("behind batch %d: %d sheets, %d holds in room for %d", n, len(b.sheets), len(b.holds), cap(b.holds))
		}
	}
}
