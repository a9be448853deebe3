package dict_test

import (
	"math/rand"
	"slices"
	"testing"

	"prelude/dict"
)

// model is a Dict as one list of pairs, in the order in which their keys came.
type model struct{ list []pair }

// at is the place of a key, -1 if it is not there.
func (m *model) at(k int) int {
	return slices.IndexFunc(m.list, func(p pair) bool { return p.key == k })
}

func (m *model) get(k int) (string, bool) {
	if i := m.at(k); i >= 0 {
		return m.list[i].value, true
	}
	return "", false
}

func (m *model) put(k int, v string) (string, bool) {
	old, is := m.get(k)
	if is {
		m.list[m.at(k)].value = v
	} else {
		m.list = append(m.list, pair{k, v})
	}
	return old, is
}

func (m *model) take(k int) (string, bool) {
	old, is := m.get(k)
	if is {
		i := m.at(k)
		m.list = slices.Delete(m.list, i, i+1)
	}
	return old, is
}

// spread is one way of spreading the keys.
type spread struct {
	parts int
	hash  func(int) uint64
	dict  *dict.Dict[int, string]
}

// spreads is many ways of spreading the keys, good ones and bad ones.
func spreads(t *testing.T) []*spread {
	list := []*spread{
		{parts: 1, hash: ten},
		{parts: 256, hash: func(int) uint64 { return 0 }},
		{parts: 7, hash: func(int) uint64 { return 1<<64 - 1 }},
		{parts: 4, hash: ten},
		{parts: 3, hash: func(k int) uint64 { return uint64(k / 2) }},
		{parts: 256, hash: func(k int) uint64 { return uint64(k) * 0x9e3779b97f4a7c15 }},
	}
	for _, s := range list {
		s.dict = made(t, s.parts, s.hash)
	}
	return append(list, &spread{parts: 5, hash: func(int) uint64 { return 0 }, dict: made(t, 5, nil)})
}

// agree holds all that a Dict tells against the model.
func (s *spread) agree(t *testing.T, m *model) {
	t.Helper()
	if s.dict.Len() != len(m.list) {
		t.Fatalf("Len %d, not %d", s.dict.Len(), len(m.list))
	}
	want := make([][]pair, s.parts)
	for _, p := range m.list {
		part := int(s.hash(p.key) % uint64(s.parts))
		want[part] = append(want[part], p)
	}
	for part := range s.parts {
		holds(t, s.dict, part, want[part]...)
	}
	if t.Failed() {
		t.FailNow()
	}
}

// 7.2 to 7.6: whatever the hash function and the number of partitions, the same is answered, and it is what a plain list answers.
func TestModel(t *testing.T) {
	r := rand.New(rand.NewSource(7))
	for range 40 {
		m, all := &model{}, spreads(t)
		span := 1 + r.Intn(40)
		for range 150 {
			k, v := r.Intn(span)-span/2, string(rune('a'+r.Intn(26)))
			act := r.Intn(40)
			var want string
			var is bool
			switch {
			case act < 18:
				want, is = m.put(k, v)
			case act < 27:
				want, is = m.get(k)
			case act < 39:
				want, is = m.take(k)
			default:
				m.list = nil
			}
			for _, s := range all {
				var got string
				var has bool
				switch {
				case act < 18:
					got, has = s.dict.Put(k, v)
				case act < 27:
					got, has = s.dict.Get(k)
				case act < 39:
					got, has = s.dict.Take(k)
				default:
					s.dict.Clear()
				}
				says(t, "a call", got, has, want, is)
				if r.Intn(8) == 0 {
					s.agree(t, m)
				}
			}
		}
		for _, s := range all {
			s.agree(t, m)
		}
	}
}

// 7.6: each key that is there stands in just one partition, once.
func TestOnce(t *testing.T) {
	for _, s := range spreads(t) {
		for k := range 500 {
			s.dict.Put(k, "a")
		}
		for k := 0; k < 500; k += 3 {
			s.dict.Take(k)
			s.dict.Put(k+1, "b")
			s.dict.Put(k, "c")
		}
		seen := map[int]int{}
		for part := range s.parts {
			for _, k := range s.dict.Keys(part) {
				seen[k]++
				if s.dict.Part(k) != part {
					t.Errorf("%d stands in %d, not in %d", k, part, s.dict.Part(k))
				}
			}
		}
		for k := range 500 {
			if seen[k] != 1 {
				t.Errorf("%d stands %d times", k, seen[k])
			}
		}
		if len(seen) != 500 || s.dict.Len() != 500 {
			t.Errorf("%d keys, Len %d", len(seen), s.dict.Len())
		}
	}
}

// R1: many keys in one partition come and go without a search for each.
func TestMany(t *testing.T) {
	const many = 200000
	d := made(t, 256, nil)
	for k := range many {
		d.Put(k, "a")
	}
	for k := 1; k < many-1; k += 2 {
		d.Take(k)
	}
	for k := many - 2; k >= 4; k -= 2 {
		d.Take(k)
	}
	holds(t, d, 0, pair{0, "a"}, pair{2, "a"}, pair{many - 1, "a"})
}
