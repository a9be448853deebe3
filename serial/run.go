package serial

import (
	"prelude/api"
	"prelude/vm"
)

// ran is what is told of a batch that was run.
type ran struct {
	outcomes []api.Outcome
	steps    int
}

// runAll runs the transactions of batch n, each on what the one ahead of it has left.
func (d *DB) runAll(n int, b []api.Tx) ran {
	r := ran{outcomes: make([]api.Outcome, len(b))}
	for i, tx := range b {
		outcome, steps := d.run(n, tx)
		r.outcomes[i] = outcome
		r.steps += steps
	}
	return r
}

// run runs a transaction of batch n: its outcome, and how many instructions it took.
func (d *DB) run(n int, tx api.Tx) (api.Outcome, int) {
	cells := make([]api.Cell, len(tx.Reads))
	for i, k := range tx.Reads {
		cells[i] = d.past.at(n, k)
	}
	// A sound transaction calls a sound program with all that it asks for: there is no error.
	effect, _ := vm.Run(d.lib[tx.Proc].Program, tx.Args, cells)
	if effect.Commit {
		d.leave(n, tx.Writes, effect.Puts)
	}
	return api.Outcome{
		Commit: effect.Commit,
		Code:   effect.Code,
		User:   effect.User,
		Out:    effect.Out,
		Read:   cells,
	}, effect.Steps
}

// leave leaves at each key what a program of batch n has put there.
func (d *DB) leave(n int, writes []api.Key, puts []api.Put) {
	for i, k := range writes {
		switch puts[i].Kind {
		case api.Set:
			d.past.stand(n, k, api.Cell{Is: true, Value: puts[i].Value})
		case api.Gone:
			d.past.stand(n, k, api.Cell{})
		}
	}
}
