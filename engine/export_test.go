package engine

import "prelude/api"

// There tells whether there is a version of that number.
func There(e *Engine, v int) bool {
	_, f := e.store.Look(v)
	return f == api.OK
}

// Laid is the last batch up to which all are laid.
func Laid(e *Engine) int { return e.board.Laid() }

// Knows tells whether the board knows a batch, with its outcomes.
func Knows(e *Engine, n int) bool {
	_, f := e.board.Size(n)
	return f == api.OK
}

// Waiting is how many jobs of the sweeper are not done.
func Waiting(e *Engine) int { return e.jobs.Waiting() }
