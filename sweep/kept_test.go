package sweep

import (
	"testing"

	"prelude/api"
	"prelude/cc"
	"prelude/store"
)

// 13.3: of jobs that are done nothing is kept.
func TestNothingKept(t *testing.T) {
	st, _ := store.New(2, 100)
	b, _ := cc.New(st, 1, 1, 0)
	s := New(b, st)
	for n := 1; n <= 100; n++ {
		s.Order(n, make([]int, 50))
		s.Order(n, nil)
		for s.Waiting() > 1 {
			if !s.Step() {
				t.Fatalf("behind batch %d: Step: false", n-1)
			}
		}
		if s.Waiting() != 1 || len(s.jobs) != 1 || cap(s.jobs) > 16 {
			t.Fatalf("%d jobs in room for %d", len(s.jobs), cap(s.jobs))
		}
		list := s.jobs[:cap(s.jobs)]
		s.Step()
		for i, j := range list {
			if j.next != nil {
				t.Fatalf("behind %d jobs the one at %d is kept", 2*n, i)
			}
		}
		b.Post([]api.Tx{{Writes: []api.Key{{Row: int64(n % 3)}}}})
		for b.Step(0) {
		}
		p, _ := b.Next()
		b.Claim(p, 0)
		b.Finish(p, api.Outcome{})
	}
}
