package exec

import (
	"prelude/api"
	"prelude/cc"
	"prelude/store"
)

// ground is what all hands share.
type ground struct {
	board *cc.Board
	store *store.Store
	lib   []api.Proc
}

// tells is what a version tells; false: it is not filled.
func (g *ground) tells(v int) (api.Cell, bool) {
	if v == 0 {
		return api.Cell{}, true
	}
	version, _ := g.store.Look(v) // nobody takes out what is wanted
	return version.Cell, version.Filled
}

// filler is the place of the transaction that fills a version.
func (g *ground) filler(v int) api.Place {
	version, _ := g.store.Look(v)
	return api.Place{Batch: version.Batch, Index: version.Index}
}

// posted tells whether a transaction is there, and nobody has claimed it. It is not asked by its note, which would be copied each time.
func (g *ground) posted(p api.Place) bool {
	if g.board.Holder(p) >= 0 {
		return false
	}
	_, e := g.board.Outcome(p)
	return e == api.ErrClaim // it is there, and not done
}

// postedBehind is the first transaction behind a place that is posted; false: there is none.
func (g *ground) postedBehind(p api.Place) (api.Place, bool) {
	for p.Batch <= g.board.Laid() {
		size, _ := g.board.Size(p.Batch)
		for p.Index++; p.Index < size; p.Index++ {
			if g.posted(p) {
				return p, true
			}
		}
		p = api.Place{Batch: p.Batch + 1, Index: -1}
	}
	return api.Place{}, false
}
