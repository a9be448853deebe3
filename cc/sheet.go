package cc

import "prelude/api"

// sheet is a batch on the board.
type sheet struct {
	entries []entry
	acts    [][]act // by worker: what it has yet to read and to write here; no list, once the batch is laid
	busy    int     // the workers that have not said that they are done
	undone  int     // the transactions that are not done
	first   int     // the first transaction that is posted; behind the last one, if there is none
}

// newSheet is a batch of which nothing is done, its acts spread over the workers.
func newSheet(txs []api.Tx, workers int, owner func(api.Key) int) *sheet {
	s := &sheet{acts: make([][]act, workers), busy: workers, undone: len(txs)}
	for i, tx := range txs {
		s.entries = append(s.entries, newEntry(tx))
		s.spread(toRead, i, tx.Reads, owner)
		s.spread(toWrite, i, tx.Writes, owner)
	}
	return s
}

// spread gives each key of a transaction's set to its worker.
func (s *sheet) spread(what, index int, set []api.Key, owner func(api.Key) int) {
	for at, k := range set {
		w := owner(k)
		s.acts[w] = append(s.acts[w], act{what, index, at})
	}
}

// next is a worker's next act: to say, once it has nothing else left.
func (s *sheet) next(w int) act {
	if len(s.acts[w]) == 0 {
		return act{what: toSay}
	}
	return s.acts[w][0]
}

// take is a worker's next act, which it has behind it then.
func (s *sheet) take(w int) act {
	a := s.next(w)
	if a.what != toSay {
		s.acts[w] = s.acts[w][1:]
	}
	return a
}

// skip goes on to the first transaction that is posted.
func (s *sheet) skip() {
	for s.first < len(s.entries) && s.entries[s.first].state != api.TxPosted {
		s.first++
	}
}
