package store_test

import (
	"math/rand"
	"slices"
	"testing"

	"prelude/api"
	"prelude/keys"
	"prelude/store"
)

// entry is a version of the model.
type entry struct {
	number int
	key    api.Key
	api.Version
}

// model is the chapter's words taken by the letter: all versions in one list, in the order in which they were put in.
type model struct {
	parts, capacity, last int
	list                  []entry
}

// at is where a version stands in the list, -1 if there is none.
func (m *model) at(v int) int {
	return slices.IndexFunc(m.list, func(e entry) bool { return e.number == v })
}

// chain is a key's versions, the newest first.
func (m *model) chain(k api.Key) []entry {
	var list []entry
	for _, e := range m.list {
		if e.key == k {
			list = append([]entry{e}, list...)
		}
	}
	return list
}

func (m *model) insert(k api.Key, batch, index int) (int, api.Errno) {
	switch {
	case keys.Check(k) != api.OK:
		return 0, api.ErrKey
	case batch < 1 || batch > api.MaxNumber:
		return 0, api.ErrBatch
	case index < 0 || index > api.MaxTxs-1:
		return 0, api.ErrIndex
	case len(m.list) == m.capacity:
		return 0, api.ErrFull
	}
	for _, e := range m.chain(k) {
		if batch < e.Batch || batch == e.Batch && index <= e.Index {
			return 0, api.ErrStale
		}
	}
	m.last++
	m.list = append(m.list, entry{number: m.last, key: k, Version: api.Version{Batch: batch, Index: index}})
	return m.last, api.OK
}

func (m *model) fill(v int, c api.Cell) api.Errno {
	i := m.at(v)
	if i < 0 {
		return api.ErrRef
	}
	if m.list[i].Filled {
		return api.ErrFilled
	}
	if !c.Is {
		c.Value = 0
	}
	m.list[i].Filled, m.list[i].Cell = true, c
	return api.OK
}

func (m *model) remove(v int) api.Errno {
	i := m.at(v)
	if i < 0 {
		return api.ErrRef
	}
	m.list = slices.Delete(m.list, i, i+1)
	return api.OK
}

// visible is the newest version of a chain that is not above a batch, 0 if there is none.
func visible(chain []entry, batch int) int {
	for _, e := range chain {
		if e.Batch <= batch {
			return e.number
		}
	}
	return 0
}

// agrees holds all that a store tells against the model.
func (m *model) agrees(t *testing.T, s *store.Store, all []api.Key, batches int) {
	t.Helper()
	if s.Parts() != m.parts {
		t.Errorf("Parts is %d, not %d", s.Parts(), m.parts)
	}
	counts(t, s, len(m.list), m.capacity-len(m.list))
	sets := make([][]api.Key, m.parts)
	for _, k := range all {
		chain := m.chain(k)
		var numbers []int
		for _, e := range chain {
			numbers = append(numbers, e.number)
			looks(t, s, e.number, k, e.Version)
		}
		runs(t, s, k, numbers...)
		for batch := -1; batch <= batches+1; batch++ {
			sees(t, s, k, batch, visible(chain, batch))
		}
		if len(chain) > 0 {
			part, _ := keys.Partition(k, m.parts)
			sets[part] = append(sets[part], k)
		}
	}
	for part, want := range sets {
		if got := s.Keys(part); !slices.Equal(got, want) {
			t.Errorf("Keys(%d): %v, not %v", part, got, want)
		}
	}
	for v := range m.last + 2 {
		if m.at(v) < 0 {
			missing(t, s, v)
		}
	}
	if t.Failed() {
		t.FailNow()
	}
}

// act does one call to both.
func (m *model) act(t *testing.T, s *store.Store, r *rand.Rand, all []api.Key, batches int) {
	t.Helper()
	v := r.Intn(m.last + 3)
	if len(m.list) > 0 && r.Intn(4) > 0 {
		v = m.list[r.Intn(len(m.list))].number
	}
	switch r.Intn(10) {
	case 0, 1:
		does(t, "Remove", s.Remove(v), m.remove(v))
	case 2, 3:
		c := api.Cell{Is: r.Intn(2) == 0, Value: int64(r.Intn(5))}
		does(t, "Fill", s.Fill(v, c), m.fill(v, c))
	default:
		k := all[r.Intn(len(all))]
		batch, index := r.Intn(batches+1), r.Intn(66)-1
		if chain := m.chain(k); len(chain) > 0 && r.Intn(2) == 0 { // near the newest one
			batch, index = chain[0].Batch+r.Intn(2), chain[0].Index+r.Intn(3)-1
		}
		want, wantErr := m.insert(k, batch, index)
		if got, e := s.Insert(k, batch, index); got != want || e != wantErr {
			t.Fatalf("Insert(%v, %d, %d): %d, %d, not %d, %d", k, batch, index, got, e, want, wantErr)
		}
	}
}

// 9.2 to 9.8: whatever is done, the store tells what a plain list of versions tells.
func TestModel(t *testing.T) {
	r := rand.New(rand.NewSource(9))
	for range 60 {
		m := &model{parts: 1 + r.Intn(6), capacity: 1 + r.Intn(30)}
		s := made(t, m.parts, m.capacity)
		var all []api.Key
		for i := range 1 + r.Intn(8) {
			all = append(all, api.Key{Table: r.Intn(3), Row: int64(i * (r.Intn(3) - 1))})
		}
		all, _ = keys.Sort(all)
		batches := 2 + r.Intn(30)
		for i := range 150 {
			m.act(t, s, r, all, batches)
			if i%10 == 9 {
				m.agrees(t, s, all, batches)
			}
		}
	}
}

// 9.8: what is done to one key changes nothing of another one, and a version that comes later nothing of what is visible.
func TestOthersStay(t *testing.T) {
	r := rand.New(rand.NewSource(98))
	s := made(t, 2, 200)
	for i := range 20 {
		puts(t, s, i+1, at(1), i+1, 0)
	}
	var seen []int
	for batch := range 30 {
		seen = append(seen, s.Visible(at(1), batch))
	}
	var own []int
	for i := range 300 {
		if v, e := s.Insert(at(int64(2+r.Intn(3))), i+1, 0); e == api.OK {
			own = append(own, v)
		}
		if r.Intn(2) == 0 {
			at := r.Intn(len(own))
			s.Fill(own[at], value(1))
			s.Remove(own[at])
			own = slices.Delete(own, at, at+1)
		}
	}
	runs(t, s, at(1), 20, 19, 18, 17, 16, 15, 14, 13, 12, 11, 10, 9, 8, 7, 6, 5, 4, 3, 2, 1)
	for i := range 20 {
		looks(t, s, i+1, at(1), api.Version{Batch: i + 1})
	}
	if v, e := s.Insert(at(1), 30, 0); v == 0 || e != api.OK {
		t.Fatalf("Insert: %d, %d", v, e)
	}
	for batch, want := range seen {
		sees(t, s, at(1), batch, want)
	}
}
