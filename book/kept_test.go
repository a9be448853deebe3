package book

import (
	"testing"

	"prelude/api"
)

// 10.4, 10.5: what is unpinned, and what is counted no more, leaves the maps.
func TestNothingKept(t *testing.T) {
	b, _ := New(100)
	for i := range 90 {
		b.Admit([][]api.Key{{{Row: int64(i % 4)}}})
		if b.Latest()%10 == 0 {
			b.Pin(b.Latest())
		}
	}
	b.Pin(10)
	b.Collect()
	if len(b.charged) != b.Charge() || len(b.charged) != 4*9 || len(b.newest) != 4 || len(b.pins) != 9 {
		t.Errorf("%d versions, %d keys, %d pins", len(b.charged), len(b.newest), len(b.pins))
	}
	for n := 10; n <= 90; n += 10 {
		b.Unpin(n)
	}
	if len(b.pins) != 1 {
		t.Errorf("%d pins", len(b.pins))
	}
	b.Unpin(10)
	b.Collect()
	if len(b.charged) != 4 || len(b.newest) != 4 || len(b.pins) != 0 {
		t.Errorf("%d versions, %d keys, %d pins", len(b.charged), len(b.newest), len(b.pins))
	}
	for v, older := range b.charged {
		if b.newest[v.key] != v.at || older != (api.Place{}) {
			t.Errorf("%v leads to %v", v, older)
		}
	}
}

// 10.7: asking, and being refused, leave no entry behind.
func TestNoEntries(t *testing.T) {
	b, _ := New(1)
	b.Admit([][]api.Key{{{Row: 1}}})
	b.Collect()
	b.Versions(api.Key{Row: 2})
	b.Versions(api.Key{Table: -1})
	b.Admit([][]api.Key{{{Row: 2}}, {{Row: 1}}})
	b.Admit([][]api.Key{{{Row: 2}}, {{Table: -1}}})
	b.Pin(0)
	b.Pin(2)
	b.Unpin(1)
	b.Unpin(-1)
	if len(b.charged) != 1 || len(b.newest) != 1 || len(b.pins) != 0 {
		t.Errorf("%d versions, %d keys, %d pins", len(b.charged), len(b.newest), len(b.pins))
	}
}
