package crew

import (
	"sync"
	"sync/atomic"

	"prelude/api"
	"prelude/vm"
)

// task is a transaction, and how far it is. It belongs to the workers until its batch is laid (each writes the numbers of its own shelves), and to the one hand that goes on with it from its claim on.
type task struct {
	place   api.Place
	tx      api.Tx
	reads   []spot
	own     []spot
	claimed atomic.Bool

	cells  []api.Cell  // what the reads tell that are taken
	effect *api.Effect // once its program has run
	filled int         // how many of its versions are filled

	lock    sync.Mutex // of what is behind it: other hands ask for it
	done    bool
	waiting []*task // those that can go on once it is done
}

// newTask is a transaction of which nothing is done.
func newTask(p api.Place, tx api.Tx, shelves []*shelf) *task {
	return &task{
		place: p,
		tx:    tx,
		reads: spots(tx.Reads, shelves),
		own:   spots(tx.Writes, shelves),
		cells: make([]api.Cell, 0, len(tx.Reads)),
	}
}

// lay notes which versions the reads mean, and lays those of the writes, on the shelves of a worker. The reads come first: a transaction never reads what it puts itself.
func (t *task) lay(worker int) {
	for i := range t.reads {
		if r := &t.reads[i]; r.worker == worker {
			r.number = r.newest(t.tx.Reads[i])
		}
	}
	for i := range t.own {
		if o := &t.own[i]; o.worker == worker {
			o.number = o.lay(t.tx.Writes[i], t.place)
		}
	}
}

// claim tells whether nobody has claimed the transaction ahead of this call.
func (t *task) claim() bool { return t.claimed.CompareAndSwap(false, true) }

// advance does what can be done of the transaction: true, if that is all; else the place of the one that must fill a version which is wanted.
func (t *task) advance(lib []api.Proc) (api.Place, bool) {
	if lacked, is := t.take(); !is {
		return lacked, false
	}
	t.run(lib)
	return t.fill()
}

// take takes the reads.
func (t *task) take() (api.Place, bool) {
	for len(t.cells) < len(t.reads) {
		r := t.reads[len(t.cells)]
		v := r.look(r.number)
		if !v.Filled {
			return filler(v), false
		}
		t.cells = append(t.cells, v.Cell)
	}
	return api.Place{}, true
}

// run runs the program, if it has not run.
func (t *task) run(lib []api.Proc) {
	if t.effect == nil {
		effect, _ := vm.Run(lib[t.tx.Proc].Program, t.tx.Args, t.cells) // a sound call is never refused
		t.effect = &effect
	}
}

// fill fills the versions.
func (t *task) fill() (api.Place, bool) {
	for ; t.filled < len(t.own); t.filled++ {
		o := t.own[t.filled]
		v := o.leaves(t.effect.Puts[t.filled])
		if !v.Filled {
			return filler(v), false
		}
		o.fill(o.number, v.Cell)
	}
	return api.Place{}, true
}

// await lets another transaction wait until this one is done; false: it is done already.
func (t *task) await(other *task) bool {
	t.lock.Lock()
	defer t.lock.Unlock()
	if !t.done {
		t.waiting = append(t.waiting, other)
	}
	return !t.done
}

// finish notes that the transaction is done, and answers those that have waited for it.
func (t *task) finish() []*task {
	t.lock.Lock()
	defer t.lock.Unlock()
	t.done = true
	waiting := t.waiting
	t.waiting = nil
	return waiting
}

// outcome is what the transaction's client is told.
func (t *task) outcome() api.Outcome {
	return api.Outcome{
		Commit: t.effect.Commit,
		Code:   t.effect.Code,
		User:   t.effect.User,
		Out:    t.effect.Out,
		Read:   t.cells,
	}
}

// filler is the place of the transaction that must fill a version.
func filler(v api.Version) api.Place { return api.Place{Batch: v.Batch, Index: v.Index} }
