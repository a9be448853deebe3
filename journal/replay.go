package journal

import (
	"errors"

	"prelude/api"
	"prelude/engine"
)

// replay does all operations again whose records stand from a place on: the place behind them.
func replay(e *engine.Engine, data []byte, at int) (int, error) {
	err := redoAll(e, data, at)
	var end *api.ByteError
	// A record that is not all there is no fault: a crash has torn it, and the journal ends ahead of it. That a batch's load is short is another thing, and was told otherwise.
	if errors.Is(err, api.ErrShort) && errors.As(err, &end) {
		return end.At, nil
	}
	return 0, err
}

// redoAll does operations again until no record can be taken: why, at its place. There is always such a place: the end of the bytes, if none ahead of it.
func redoAll(e *engine.Engine, data []byte, at int) error {
	for {
		r, err := recordAt(data, at)
		if err != nil {
			return err
		}
		if f := redo(e, r); f != api.OK {
			return wrongAt(at, f)
		}
		at = r.behind
	}
}

// redo does the operation of a record again.
func redo(e *engine.Engine, r record) api.Errno {
	switch r.kind {
	case kindBatch:
		_, err := e.Submit(r.load)
		return replayed(err == nil)
	case kindPin:
		return redoNumbered(e.Pin, r.load)
	case kindUnpin:
		return redoNumbered(e.Unpin, r.load)
	case kindCollect:
		return redoCollect(e, r.load)
	}
	return api.ErrRecord
}

// redoNumbered does an operation again that a batch's number belongs to.
func redoNumbered(do func(n int) api.Errno, load []byte) api.Errno {
	n, ok := loadNumber(load)
	if !ok {
		return api.ErrRecord
	}
	return replayed(do(n) == api.OK)
}

// redoCollect does a collect again.
func redoCollect(e *engine.Engine, load []byte) api.Errno {
	if len(load) > 0 {
		return api.ErrRecord
	}
	e.Collect()
	return api.OK
}

// replayed is the error of an operation that is let in again, or is not.
func replayed(letIn bool) api.Errno {
	if !letIn {
		return api.ErrReplay
	}
	return api.OK
}
