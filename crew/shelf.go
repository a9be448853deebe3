package crew

import (
	"sync"

	"prelude/api"
	"prelude/store"
)

// shelf is the versions of the keys of one partition. One worker lays them all, while hands look at them and fill them: so they stand behind a lock.
type shelf struct {
	worker int // who lays them
	lock   sync.Mutex
	store  *store.Store
}

// newShelf is a shelf without versions, with room for all that a run may have.
func newShelf(worker int) *shelf {
	st, _ := store.New(1, api.MaxCapacity)
	return &shelf{worker: worker, store: st}
}

// newest is the number of a key's newest version, 0 if there is none.
func (s *shelf) newest(k api.Key) int {
	s.lock.Lock()
	defer s.lock.Unlock()
	return s.store.Newest(k)
}

// lay puts in a version of a key: its number. It is never refused: its worker goes by the log, and what has no room is not run.
func (s *shelf) lay(k api.Key, p api.Place) int {
	s.lock.Lock()
	defer s.lock.Unlock()
	v, _ := s.store.Insert(k, p.Batch, p.Index)
	return v
}

// look is the version of a number; that of 0 is nothing, that nobody has to fill.
func (s *shelf) look(v int) api.Version {
	s.lock.Lock()
	defer s.lock.Unlock()
	return s.found(v)
}

// before is the next older version of the same key, as look tells it.
func (s *shelf) before(v int) api.Version {
	s.lock.Lock()
	defer s.lock.Unlock()
	return s.found(s.store.Before(v))
}

// found is look for one who has the lock.
func (s *shelf) found(v int) api.Version {
	if v == 0 {
		return api.Version{Filled: true}
	}
	version, _ := s.store.Look(v)
	return version
}

// fill gives a version its cell.
func (s *shelf) fill(v int, cell api.Cell) {
	s.lock.Lock()
	defer s.lock.Unlock()
	s.store.Fill(v, cell)
}

// rows is what stands at the keys behind all versions, in any order.
func (s *shelf) rows() []api.Row {
	var list []api.Row
	for _, k := range s.store.Keys(0) {
		if cell := s.look(s.newest(k)).Cell; cell.Is {
			list = append(list, api.Row{Key: k, Value: cell.Value})
		}
	}
	return list
}
