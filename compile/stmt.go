package compile

import (
	"strings"

	"prelude/api"
)

// writing writes a procedure's code, and gives up at the first thing in the procedure that is wrong.
type writing struct {
	code
	names names
	folds *folding
	slots int64 // how many slots the locals have taken
	deep  int   // within how many blocks it is
}

// procedure is a procedure, not looked over for its size.
func procedure(d *api.Define, f *folding) api.Proc {
	w := writing{names: head(d, f.consts), folds: f}
	w.block(d.Body)
	return api.Proc{
		Name: strings.Clone(d.Name),
		Program: api.Program{
			Args:   len(d.Args),
			Reads:  len(d.Reads),
			Writes: len(d.Writes),
			Locals: int(w.slots),
			Code:   w.list,
		},
	}
}

// block writes a block.
func (w *writing) block(stmts []api.Stmt) {
	around := w.names
	w.names = around.block()
	w.deep++
	for i := range stmts {
		w.stmt(&stmts[i])
	}
	w.deep--
	w.names = around
}

// stmt writes a statement.
func (w *writing) stmt(s *api.Stmt) {
	switch s.Kind {
	case api.SLet:
		w.expr(&s.X)
		w.add(api.ISave, w.let(s))
	case api.SSet:
		slot := w.names.local(s)
		w.expr(&s.X)
		w.add(api.ISave, slot)
	case api.SPut:
		place := w.names.write(s)
		w.expr(&s.X)
		w.add(api.IPut, place)
	case api.SPutX:
		w.expr(&s.X)
		w.expr(&s.Y)
		w.add(api.IPutX, 0)
	case api.SDel:
		w.add(api.IDel, w.names.write(s))
	case api.SOut:
		w.expr(&s.X)
		w.add(api.IOut, 0)
	case api.SAbort:
		w.expr(&s.X)
		w.add(api.IAbort, 0)
	case api.SStop:
		w.add(api.IStop, 0)
	case api.SIf:
		w.condition(s)
	case api.SRepeat:
		w.repetition(s)
	}
}

// let makes a local visible, and is its slot. The slot is counted also where the code is never done.
func (w *writing) let(s *api.Stmt) int64 {
	slot := w.names.let(s)
	w.slots = max(w.slots, slot+1)
	return slot
}

// condition writes an if and what hangs on it.
func (w *writing) condition(s *api.Stmt) {
	w.expr(&s.X)
	otherwise := w.ahead(api.IZero)
	w.block(s.Body)
	if len(s.Else) == 0 {
		otherwise()
		return
	}
	end := w.ahead(api.IJump)
	otherwise()
	w.block(s.Else)
	end()
}

// repetition writes a repeat. Its body is gone through once, however often it is done.
func (w *writing) repetition(s *api.Stmt) {
	times := w.folds.constant(&s.X, &w.names, w.deep)
	want(0 <= times && times <= api.MaxCode, s.X.At, api.ErrLimit)
	from := len(w.list)
	w.block(s.Body)
	w.repeat(from, times)
}
