package crew

import (
	"sync/atomic"

	"prelude/api"
)

// sheet is a batch, and how far it is.
type sheet struct {
	tasks    []*task
	unlaid   atomic.Int64  // the workers that have not laid their versions of it
	left     atomic.Int64  // its transactions that are not done; and 1, until all of them are posted
	complete chan struct{} // it is closed once nothing is left
}

// newSheet is a batch with which no worker has begun.
func newSheet(number int, b []api.Tx, workers int, shelves []*shelf) *sheet {
	s := &sheet{complete: make(chan struct{})}
	for i, tx := range b {
		s.tasks = append(s.tasks, newTask(api.Place{Batch: number, Index: i}, tx, shelves))
	}
	s.unlaid.Store(int64(workers))
	s.left.Store(int64(len(b)) + 1)
	return s
}

// tick tells that one less is left.
func (s *sheet) tick() {
	if s.left.Add(-1) == 0 {
		close(s.complete)
	}
}
