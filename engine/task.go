package engine

import (
	"prelude/api"
	"prelude/book"
	"prelude/cc"
	"prelude/exec"
	"prelude/sched"
	"prelude/store"
	"prelude/sweep"
)

// parts is what all tasks share, and the database with them.
type parts struct {
	door  *book.Book
	store *store.Store
	board *cc.Board
	hands *exec.Hands
	jobs  *sweep.Sweeper
}

// forget lets go of the outcomes that are told no more: those up to the floor, as far as their batches are complete. What is not complete yet the step lets go that makes it so.
func (p *parts) forget() { p.board.Forget(p.door.Floor()) }

// worker is the task of a worker of the first phase.
type worker struct {
	*parts
	number int
}

// Ready tells whether the worker has a step to take.
func (w worker) Ready() bool { return w.board.Ready(w.number) }

// Step is the worker's step. A batch without transactions is complete when it is laid.
func (w worker) Step() {
	w.board.Step(w.number)
	w.forget()
}

// hand is the task of a hand of the second phase.
type hand struct {
	*parts
	number int
}

// Ready tells whether the hand has a step to take.
func (h hand) Ready() bool { return h.hands.Ready(h.number) }

// Step is the hand's step.
func (h hand) Step() {
	h.hands.Step(h.number)
	h.forget()
}

// sweeper is the sweeper's task.
type sweeper struct{ *parts }

// Ready tells whether the sweeper has a step to take.
func (s sweeper) Ready() bool { return s.jobs.Ready() }

// Step is the sweeper's step.
func (s sweeper) Step() { s.jobs.Step() }

// newLine is the tasks in one line: the workers, the hands, the sweeper.
func newLine(l api.Layout, p *parts) *sched.Line {
	var tasks []sched.Task
	for w := range l.Workers {
		tasks = append(tasks, worker{p, w})
	}
	for h := range l.Hands {
		tasks = append(tasks, hand{p, h})
	}
	return sched.New(append(tasks, sweeper{p})...)
}
