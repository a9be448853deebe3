package cc_test

import (
	"fmt"
	"math/rand"
	"slices"
	"testing"

	"prelude/api"
	"prelude/cc"
	"prelude/keys"
	"prelude/store"
)

// modelTx is a transaction of the model.
type modelTx struct {
	note    api.Note
	hand    int
	outcome api.Outcome
}

// modelBatch is a batch of the model: its transactions, and how many acts each worker has done at it.
type modelBatch struct {
	list  []*modelTx
	acts  []int
	known bool
}

// model is the chapter's words taken by the letter: all batches in one list, nothing reckoned ahead.
type model struct {
	st                     *store.Store
	workers, ahead, begins int
	batches                []*modelBatch // the first one is number begins + 1
	holds                  []int
}

func (m *model) latest() int { return m.begins + len(m.batches) }

// batch is a batch that was posted, or nil.
func (m *model) batch(n int) *modelBatch {
	if n <= m.begins || n > m.latest() {
		return nil
	}
	return m.batches[n-m.begins-1]
}

// modelAct is one act: of a transaction, at a read or a write.
type modelAct struct {
	x     *modelTx
	index int
	write bool
	at    int
}

// own is all of a worker's acts at a batch but the last one.
func (m *model) own(w, n int) []modelAct {
	var list []modelAct
	for i, x := range m.batch(n).list {
		for at, k := range x.note.Tx.Reads {
			if of(k, m.st.Parts())%m.workers == w {
				list = append(list, modelAct{x, i, false, at})
			}
		}
		for at, k := range x.note.Tx.Writes {
			if of(k, m.st.Parts())%m.workers == w {
				list = append(list, modelAct{x, i, true, at})
			}
		}
	}
	return list
}

// said tells whether a worker is done with a batch.
func (m *model) said(w, n int) bool { return m.batch(n).acts[w] > len(m.own(w, n)) }

func (m *model) isLaid(n int) bool {
	for w := range m.workers {
		if !m.said(w, n) {
			return false
		}
	}
	return true
}

func (m *model) laid() int {
	n := m.begins
	for n < m.latest() && m.isLaid(n+1) {
		n++
	}
	return n
}

func (m *model) complete() int {
	n := m.begins
	for n < m.laid() && !slices.ContainsFunc(m.batch(n+1).list, func(x *modelTx) bool { return x.note.State != api.TxDone }) {
		n++
	}
	return n
}

func (m *model) held(n int) bool {
	return slices.ContainsFunc(m.holds, func(at int) bool { return at < n })
}

// turn is a worker's batch.
func (m *model) turn(w int) int {
	n := m.begins + 1
	for n <= m.latest() && m.said(w, n) {
		n++
	}
	return n
}

func (m *model) ready(w int) bool {
	if w < 0 || w >= m.workers {
		return false
	}
	n := m.turn(w)
	if n > m.latest() || n > m.complete()+m.ahead || m.held(n) {
		return false
	}
	acts, done := m.own(w, n), m.batch(n).acts[w]
	return done == len(acts) || !acts[done].write || m.st.Room() > 0
}

func (m *model) step(w int) bool {
	if !m.ready(w) {
		return false
	}
	n := m.turn(w)
	acts, done := m.own(w, n), m.batch(n).acts[w]
	m.batch(n).acts[w]++
	if done == len(acts) {
		return true
	}
	a := acts[done]
	if !a.write {
		a.x.note.Reads[a.at] = m.st.Newest(a.x.note.Tx.Reads[a.at])
		return true
	}
	k := a.x.note.Tx.Writes[a.at]
	a.x.note.Before[a.at] = m.st.Newest(k)
	a.x.note.Own[a.at], _ = m.st.Insert(k, n, a.index)
	return true
}

func (m *model) post(list []api.Tx) int {
	b := &modelBatch{acts: make([]int, m.workers), known: true}
	for _, x := range list {
		b.list = append(b.list, &modelTx{note: api.Note{State: api.TxPosted, Tx: x, Reads: make([]int, len(x.Reads)), Before: make([]int, len(x.Writes)), Own: make([]int, len(x.Writes))}})
	}
	m.batches = append(m.batches, b)
	return m.latest()
}

func (m *model) find(at api.Place) (*modelTx, api.Errno) {
	b := m.batch(at.Batch)
	if b == nil || !b.known || at.Batch > m.laid() {
		return nil, api.ErrBatch
	}
	if at.Index < 0 || at.Index >= len(b.list) {
		return nil, api.ErrIndex
	}
	return b.list[at.Index], api.OK
}

func (m *model) next() (api.Place, bool) {
	for n := m.begins + 1; n <= m.laid(); n++ {
		for i, x := range m.batch(n).list {
			if x.note.State == api.TxPosted {
				return p(n, i), true
			}
		}
	}
	return api.Place{}, false
}

func (m *model) claim(at api.Place, hand int) bool {
	x, e := m.find(at)
	if e != api.OK || x.note.State != api.TxPosted || hand < 0 {
		return false
	}
	x.note.State, x.hand = api.TxClaimed, hand
	return true
}

func (m *model) finish(at api.Place, o api.Outcome) api.Errno {
	x, e := m.find(at)
	if e != api.OK {
		return e
	}
	if x.note.State != api.TxClaimed {
		return api.ErrClaim
	}
	x.note.State, x.outcome = api.TxDone, o
	return api.OK
}

func (m *model) forget(n int) {
	for i := m.begins + 1; i <= min(n, m.complete()); i++ {
		m.batch(i).known = false
	}
}

// agrees holds all that a board tells against the model.
func (m *model) agrees(t *testing.T, b *cc.Board, st *store.Store) {
	t.Helper()
	numbers(t, b, m.latest(), m.laid(), m.complete())
	at, is := m.next()
	if gotAt, gotIs := b.Next(); gotAt != at || gotIs != is {
		t.Errorf("Next: %v, %v, not %v, %v", gotAt, gotIs, at, is)
	}
	for w := -1; w <= m.workers; w++ {
		if b.Ready(w) != m.ready(w) {
			t.Errorf("Ready(%d): %v", w, b.Ready(w))
		}
	}
	for n := max(m.begins, m.latest()-30); n <= m.latest()+1; n++ {
		if b.Held(n) != m.held(n) {
			t.Errorf("Held(%d): %v", n, b.Held(n))
		}
		size, e := 0, api.ErrBatch
		if batch := m.batch(n); batch != nil && batch.known {
			size, e = len(batch.list), api.OK
		}
		if got, code := b.Size(n); got != size || code != e {
			t.Errorf("Size(%d): %d, %d, not %d, %d", n, got, code, size, e)
		}
		for i := -1; i <= size; i++ {
			m.agreesAt(t, b, p(n, i))
		}
	}
	if st.Live() != m.st.Live() || fmt.Sprint(st.Keys(0)) != fmt.Sprint(m.st.Keys(0)) {
		t.Error("the stores differ")
	}
	if t.Failed() {
		t.FailNow()
	}
}

// agreesAt holds what a board tells of a place against the model.
func (m *model) agreesAt(t *testing.T, b *cc.Board, at api.Place) {
	t.Helper()
	x, e := m.find(at)
	if e != api.OK {
		x = &modelTx{}
	}
	if note, code := b.Note(at); code != e || fmt.Sprint(note) != fmt.Sprint(x.note) {
		t.Errorf("Note(%v): %v, %d, not %v, %d", at, note, code, x.note, e)
	}
	hand := -1
	if x.note.State == api.TxClaimed {
		hand = x.hand
	}
	held(t, b, at, hand)
	if e == api.OK && x.note.State != api.TxDone {
		e = api.ErrClaim
	}
	outcomeIs(t, b, at, x.outcome, e)
}

// anySet is some of the keys.
func anySet(r *rand.Rand, all []api.Key) []api.Key {
	var list []api.Key
	for _, k := range all {
		if r.Intn(3) == 0 {
			list = append(list, k)
		}
	}
	return list
}

// anyBatch is some transactions over the keys.
func anyBatch(r *rand.Rand, all []api.Key) []api.Tx {
	var list []api.Tx
	for range r.Intn(5) {
		list = append(list, api.Tx{Proc: r.Intn(64), Args: make([]int64, r.Intn(3)), Reads: anySet(r, all), Writes: anySet(r, all)})
	}
	return list
}

// act does one call to both.
func (m *model) act(t *testing.T, b *cc.Board, st *store.Store, r *rand.Rand, all []api.Key) {
	t.Helper()
	at, _ := m.next()
	at.Index += r.Intn(3) - r.Intn(2)
	at.Batch += r.Intn(2) * r.Intn(2)
	n := m.complete() - 2 + r.Intn(5)
	var got, want any
	switch r.Intn(16) {
	case 0:
		if m.latest() < m.complete()+6 {
			list := anyBatch(r, all)
			got, want = b.Post(list), m.post(list)
		}
	case 1:
		if r.Intn(3) == 0 {
			b.Hold()
			m.holds = append(m.holds, m.latest())
		}
	case 2:
		got, want = b.Free(), len(m.holds) > 0
		m.holds = m.holds[min(1, len(m.holds)):]
	case 3:
		b.Forget(n)
		m.forget(n)
	case 4:
		v := 1 + r.Intn(100)
		got, want = st.Remove(v), m.st.Remove(v)
	case 5, 6:
		hand := r.Intn(6) - 1
		got, want = b.Claim(at, hand), m.claim(at, hand)
	case 7, 8, 9:
		o := api.Outcome{User: r.Int63(), Out: make([]int64, r.Intn(3))}
		at = m.claimed(at)
		got, want = b.Finish(at, o), m.finish(at, o)
	default:
		w := r.Intn(m.workers+1) - r.Intn(2)
		got, want = b.Step(w), m.step(w)
	}
	if got != want {
		t.Fatalf("%v, not %v", got, want)
	}
}

// claimed is the place of a transaction that is claimed, or else the place that is handed in.
func (m *model) claimed(at api.Place) api.Place {
	for n := m.begins + 1; n <= m.laid(); n++ {
		for i, x := range m.batch(n).list {
			if x.note.State == api.TxClaimed {
				return p(n, i)
			}
		}
	}
	return at
}

// 11.2 to 11.8: whatever is done, the board tells what the chapter's words tell.
func TestModel(t *testing.T) {
	r := rand.New(rand.NewSource(11))
	laid := 0
	for range 80 {
		parts, capacity := 1+r.Intn(6), 20+r.Intn(60)
		m := &model{st: kept(t, parts, capacity), workers: 1 + r.Intn(4), ahead: 1 + r.Intn(4), begins: r.Intn(3)}
		st := kept(t, parts, capacity)
		var all []api.Key
		for i := range 2 + r.Intn(5) {
			all = append(all, api.Key{Table: r.Intn(2), Row: int64(i)})
		}
		all, _ = keys.Sort(all)
		if m.begins > 0 {
			st.Insert(all[0], 1, 0)
			m.st.Insert(all[0], 1, 0)
		}
		b := over(t, st, m.workers, m.ahead, m.begins)
		for i := range 300 {
			m.act(t, b, st, r, all)
			if i%5 == 0 {
				m.agrees(t, b, st)
			}
		}
		m.agrees(t, b, st)
		laid += b.Laid() - m.begins
	}
	if laid < 300 {
		t.Errorf("only %d batches were laid", laid)
	}
}

// noted is what a note means: for each number the place of its version.
func noted(places map[int]api.Place, n api.Note) [3][]api.Place {
	var lists [3][]api.Place
	for i, l := range [][]int{n.Reads, n.Before, n.Own} {
		for _, v := range l {
			lists[i] = append(lists[i], places[v])
		}
	}
	return lists
}

// 11.9: whatever the order of the workers' steps, and however many they are, the notes mean the same versions, and the chains are those of the log.
func TestEveryOrder(t *testing.T) {
	r := rand.New(rand.NewSource(119))
	all := run(0, 6)
	for range 40 {
		var log [][]api.Tx
		for range 6 {
			log = append(log, anyBatch(r, all))
		}
		for range 5 {
			parts, workers := 1+r.Intn(8), 1+r.Intn(8)
			st := kept(t, parts, 1000)
			st.Insert(at(0), 2, 1)
			b := over(t, st, workers, 1+r.Intn(4), 2)
			newest := map[api.Key]api.Place{at(0): p(2, 1)}
			for _, list := range log {
				b.Post(list)
			}
			for b.Laid() < b.Latest() {
				if b.Step(r.Intn(workers)); r.Intn(3) == 0 {
					if at, is := b.Next(); is {
						does(t, b, at)
					}
				}
			}
			follows(t, b, st, log, newest)
		}
	}
}

// follows looks that the notes of all batches mean the versions that the log says, newest being each key's at the beginning.
func follows(t *testing.T, b *cc.Board, st *store.Store, log [][]api.Tx, newest map[api.Key]api.Place) {
	t.Helper()
	places, chains := map[int]api.Place{}, map[api.Key][]api.Version{}
	for v := 1; v <= st.Live(); v++ {
		version, _ := st.Look(v)
		places[v] = p(version.Batch, version.Index)
	}
	for k, at := range newest {
		chains[k] = []api.Version{{Batch: at.Batch, Index: at.Index}}
	}
	for n, list := range log {
		for i, x := range list {
			own := p(3+n, i)
			var want [3][]api.Place
			for _, k := range x.Reads {
				want[0] = append(want[0], newest[k])
			}
			for _, k := range x.Writes {
				want[1] = append(want[1], newest[k])
				want[2] = append(want[2], own)
				newest[k] = own
				chains[k] = append([]api.Version{{Batch: own.Batch, Index: own.Index}}, chains[k]...)
			}
			note, e := b.Note(own)
			if got := noted(places, note); e != api.OK || fmt.Sprint(got) != fmt.Sprint(want) {
				t.Fatalf("Note(%v) means %v, %d, not %v", own, got, e, want)
			}
		}
	}
	for k, chain := range chains {
		if got := st.Chain(k); !slices.Equal(got, chain) {
			t.Errorf("the chain of %v is %v, not %v", k, got, chain)
		}
	}
}
