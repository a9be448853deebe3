package store

import (
	"testing"

	"prelude/api"
)

// 9.6: of what was taken out nothing is kept: neither a chain of a key without versions, nor a version in the room that its chain has had.
func TestNothingKept(t *testing.T) {
	s, _ := New(4, 100)
	for i := range 40 {
		s.Insert(api.Key{Row: int64(i % 4)}, i+1, 0)
	}
	c, _ := s.chains.Get(api.Key{})
	list := c.line[:cap(c.line)]
	for _, v := range []int{1, 37, 5, 33, 13, 29, 9, 25, 17, 21} {
		if e := s.Remove(v); e != api.OK {
			t.Fatalf("Remove(%d): %d", v, e)
		}
		held := 0
		for _, kept := range list {
			if kept != nil {
				held++
			}
		}
		if held != len(c.line) {
			t.Errorf("behind Remove(%d) %d versions are held, not %d", v, held, len(c.line))
		}
	}
	if s.chains.Len() != 3 || len(s.versions) != 30 {
		t.Errorf("%d chains, %d versions", s.chains.Len(), len(s.versions))
	}
}
