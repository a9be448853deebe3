package exec

import (
	"prelude/api"
	"prelude/batch"
	"prelude/vm"
)

// job is a transaction that a hand has begun, and how far it is.
type job struct {
	place   api.Place
	note    api.Note
	cells   []api.Cell  // what the reads tell that are taken
	machine *vm.Machine // while there is an instruction to run
	effect  api.Effect  // once there is none
	filled  int         // how many of its versions are filled
}

// newJob is a transaction of which nothing is done.
func newJob(p api.Place, note api.Note, lib []api.Proc) *job {
	j := &job{place: p, note: note}
	j.start(lib)
	return j
}

// next is the next act at the transaction, whether or not what it wants is filled.
func (j *job) next() int {
	switch {
	case len(j.cells) < len(j.note.Reads):
		return toTake
	case j.machine != nil:
		return toRun
	case j.filled < len(j.note.Own):
		return toFill
	}
	return toFinish
}

// wanted is the number of the version that the next act wants; 0: it wants none.
func (j *job) wanted() int {
	switch j.next() {
	case toTake:
		return j.note.Reads[len(j.cells)]
	case toFill:
		if j.effect.Puts[j.filled].Kind == api.Kept {
			return j.note.Before[j.filled]
		}
	}
	return 0
}

// take takes what the next read tells.
func (j *job) take(c api.Cell, lib []api.Proc) {
	j.cells = append(j.cells, c)
	j.start(lib)
}

// start sets the machine going, once all reads are taken. What is not sound for the library has none.
func (j *job) start(lib []api.Proc) {
	if len(j.cells) < len(j.note.Reads) {
		return
	}
	tx := j.note.Tx
	if _, e := batch.Check(lib, []api.Tx{tx}); e != api.OK {
		j.effect = api.Effect{Code: e, Puts: make([]api.Put, len(tx.Writes))} // all of them Kept
		return
	}
	j.machine, _ = vm.New(lib[tx.Proc].Program, tx.Args, j.cells) // a sound call is never refused
	j.look()
}

// run runs an instruction.
func (j *job) run() {
	j.machine.Step()
	j.look()
}

// look lets go of a machine that is done: its effect is all that is asked for from then on.
func (j *job) look() {
	if j.machine.Done() {
		j.effect, j.machine = j.machine.Effect(), nil
	}
}

// leaves is the cell of the version that is filled next; kept is what stood there. (A program that has failed keeps all its writes.)
func (j *job) leaves(kept api.Cell) api.Cell {
	switch put := j.effect.Puts[j.filled]; put.Kind {
	case api.Set:
		return api.Cell{Is: true, Value: put.Value}
	case api.Gone:
		return api.Cell{}
	}
	return kept
}

// outcome is what the transaction's client is told.
func (j *job) outcome() api.Outcome {
	return api.Outcome{
		Commit: j.effect.Commit,
		Code:   j.effect.Code,
		User:   j.effect.User,
		Out:    j.effect.Out,
		Read:   j.cells,
	}
}
