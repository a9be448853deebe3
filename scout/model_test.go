package scout_test

import (
	"cmp"
	"errors"
	"slices"

	"prelude/api"
	"prelude/batch"
	"prelude/book"
	"prelude/keys"
	"prelude/serial"
)

// world is a database by the letter: the plain one, and a door.
type world struct {
	lib  []api.Proc
	db   *serial.DB
	door *book.Book
	log  [][]api.Tx
}

// newWorld is a world without batches.
func newWorld(lib []api.Proc, capacity int) *world {
	db, _ := serial.New(lib)
	door, _ := book.New(capacity)
	return &world{lib: lib, db: db, door: door}
}

// post lets a batch in, or tells why not.
func (w *world) post(b []api.Tx) (int, error) {
	if i, f := batch.Check(w.lib, b); f != api.OK {
		return 0, &api.TxError{Index: i, Err: f}
	}
	n, f := w.door.Admit(batch.Writes(b))
	if f != api.OK {
		return 0, f
	}
	if _, err := w.db.Apply(b); err != nil {
		panic(err)
	}
	w.log = append(w.log, b)
	return n, nil
}

// isPinned tells whether a batch is pinned.
func (w *world) isPinned(n int) bool {
	for _, p := range w.door.Pins() {
		if p.Batch == n {
			return true
		}
	}
	return false
}

// walk goes a path behind a batch: what it passes, what stands there, and where it ends.
func (w *world) walk(n int, p api.Path) ([]api.Row, api.Key, api.Errno) {
	if keys.Check(p.Key) != api.OK {
		return nil, api.Key{}, api.ErrKey
	}
	if len(p.Hops) == 0 {
		return nil, p.Key, api.OK
	}
	c, _ := w.db.At(n, p.Key)
	if !c.Is {
		return nil, api.Key{}, api.ErrLost
	}
	passed, end, f := w.walk(n, api.Path{Key: api.Key{Table: p.Hops[0].Table, Row: c.Value + p.Hops[0].Off}, Hops: p.Hops[1:]})
	return append(passed, api.Row{Key: p.Key, Value: c.Value}), end, f
}

// found is what was found for a wish: its guards with what stands there, and the ends.
type found struct {
	guards        []api.Row
	reads, writes []api.Key
}

// find goes all paths of a wish.
func (w *world) find(n int, wish api.Wish) (found, api.Errno) {
	var out found
	for i, p := range append(slices.Clone(wish.Reads), wish.Writes...) {
		passed, end, f := w.walk(n, p)
		if f != api.OK {
			return found{}, f
		}
		out.guards = append(out.guards, passed...)
		if i < len(wish.Reads) {
			out.reads = append(out.reads, end)
		} else {
			out.writes = append(out.writes, end)
		}
	}
	slices.SortFunc(out.guards, func(a, b api.Row) int {
		return cmp.Or(cmp.Compare(a.Key.Table, b.Key.Table), cmp.Compare(a.Key.Row, b.Key.Row))
	})
	out.guards = slices.Compact(out.guards)
	return out, api.OK
}

// foretell is a wish's transaction by the letter.
func (w *world) foretell(n, procs int, wish api.Wish) (api.Tx, api.Errno) {
	if !w.isPinned(n) {
		return api.Tx{}, api.ErrPin
	}
	x, f := w.find(n, wish)
	if f != api.OK {
		return api.Tx{}, f
	}
	tx := api.Tx{Proc: wish.Proc, Writes: x.writes}
	for _, g := range x.guards {
		tx.Proc += procs
		tx.Args = append(tx.Args, g.Value)
		tx.Reads = append(tx.Reads, g.Key)
	}
	tx.Args = append(tx.Args, wish.Args...)
	tx.Reads = append(tx.Reads, x.reads...)
	if !keys.Rises(tx.Reads) || !keys.Rises(tx.Writes) {
		return api.Tx{}, api.ErrTangled
	}
	return tx, api.OK
}

// run does wishes by the letter.
func (w *world) run(procs int, wishes []api.Wish, tries int) []api.Fate {
	fates := make([]api.Fate, len(wishes))
	for try := 1; try <= tries && try <= 1000; try++ {
		var open []int
		for i, f := range fates {
			if f.State == 0 {
				open = append(open, i)
			}
		}
		if len(open) == 0 {
			break
		}
		w.try(procs, wishes, fates, open)
	}
	for i := range fates {
		if fates[i].State == 0 {
			fates[i].State = api.FateLeft
		}
	}
	return fates
}

// try is one try with the open wishes.
func (w *world) try(procs int, wishes []api.Wish, fates []api.Fate, open []int) {
	refuse := func(i int, f api.Errno) { fates[i].State, fates[i].Err = api.FateRefused, f }
	n := w.door.Latest()
	if f := w.door.Pin(n); f != api.OK {
		for _, i := range open {
			refuse(i, f)
		}
		return
	}
	var posted []int
	txs := map[int]api.Tx{}
	for at, i := range open {
		if at == 64 {
			break
		}
		fates[i].Tries++
		tx, f := w.foretell(n, procs, wishes[i])
		if f != api.OK {
			refuse(i, f)
			continue
		}
		posted, txs[i] = append(posted, i), tx
	}
	number := 0
	for len(posted) > 0 {
		var b []api.Tx
		for _, i := range posted {
			b = append(b, txs[i])
		}
		at, err := w.post(b)
		var wrong *api.TxError
		if err == nil {
			number = at
			break
		} else if errors.As(err, &wrong) {
			refuse(posted[wrong.Index], wrong.Err.(api.Errno))
			posted = slices.Concat(posted[:wrong.Index], posted[wrong.Index+1:])
		} else {
			for _, i := range posted {
				refuse(i, err.(api.Errno))
			}
			posted = nil
		}
	}
	w.door.Unpin(n)
	for at, i := range posted {
		o, _ := w.db.Outcome(number, at)
		if !o.Commit && o.Code == api.FaultAbort && o.User == 1<<62 {
			continue
		}
		passed := len(txs[i].Args) - len(wishes[i].Args)
		o.Read = o.Read[passed:]
		fates[i].State, fates[i].At, fates[i].Outcome = api.FateDone, api.Place{Batch: number, Index: at}, o
	}
}
