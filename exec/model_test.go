package exec_test

import (
	"fmt"
	"math/rand"
	"slices"
	"testing"

	"prelude/api"
	"prelude/batch"
	"prelude/keys"
	"prelude/store"
	"prelude/vm"
)

// modelJob is a transaction on a stack, and how many acts at it are done behind its claim.
type modelJob struct {
	place api.Place
	done  int
	cells []api.Cell
}

// model is the chapter's words taken by the letter, over a board and a store of its own: nothing is remembered but the acts that are done and the cells.
type model struct {
	world  // its hands are not used
	stacks [][]*modelJob
}

// modelOf is a model over a world.
func modelOf(w world) *model { return &model{w, make([][]*modelJob, w.hands)} }

// posted is the places of all transactions that are posted and there.
func (m *model) posted() []api.Place {
	var list []api.Place
	for n := m.latest + 1; n <= m.b.Latest(); n++ {
		size, _ := m.b.Size(n)
		for i := range size {
			if note, e := m.b.Note(p(n, i)); e == api.OK && note.State == api.TxPosted {
				list = append(list, p(n, i))
			}
		}
	}
	return list
}

// effect is what a transaction does, all its reads taken.
func (m *model) effect(x api.Tx, cells []api.Cell) api.Effect {
	if _, e := batch.Check(m.lib, []api.Tx{x}); e != api.OK {
		return api.Effect{Code: e, Puts: make([]api.Put, len(x.Writes))}
	}
	effect, e := vm.Run(m.lib[x.Proc].Program, x.Args, cells)
	if e != api.OK {
		panic(e)
	}
	return effect
}

// modelAct is a hand's next act: to claim a place, or what it does; and the version that it wants.
type modelAct struct {
	claim  api.Place
	wanted int
	do     func(c api.Cell)
}

// at is the next act at a transaction, whether or not what it wants is filled.
func (m *model) at(h int, j *modelJob) modelAct {
	note, e := m.b.Note(j.place)
	if e != api.OK {
		panic(e)
	}
	n := j.done
	if n < len(note.Reads) {
		return modelAct{wanted: note.Reads[n], do: func(c api.Cell) { j.cells = append(j.cells, c) }}
	}
	effect := m.effect(note.Tx, j.cells)
	n -= len(note.Reads)
	if n < effect.Steps {
		return modelAct{do: func(api.Cell) {}}
	}
	n -= effect.Steps
	if n < len(note.Own) {
		put := effect.Puts[n]
		switch {
		case effect.Commit && put.Kind == api.Set:
			return modelAct{do: func(api.Cell) { m.st.Fill(note.Own[n], is(put.Value)) }}
		case effect.Commit && put.Kind == api.Gone:
			return modelAct{do: func(api.Cell) { m.st.Fill(note.Own[n], api.Cell{}) }}
		}
		return modelAct{wanted: note.Before[n], do: func(c api.Cell) { m.st.Fill(note.Own[n], c) }}
	}
	return modelAct{do: func(api.Cell) {
		m.b.Finish(j.place, api.Outcome{Commit: effect.Commit, Code: effect.Code, User: effect.User, Out: effect.Out, Read: j.cells})
		m.stacks[h] = m.stacks[h][:len(m.stacks[h])-1]
	}}
}

// waitsFor is the place of the transaction that must fill what the next act at the top wants, if it is not filled.
func (m *model) waitsFor(h int) (api.Place, bool) {
	s := m.stacks[h]
	if len(s) == 0 {
		return api.Place{}, false
	}
	wanted := m.at(h, s[len(s)-1]).wanted
	v, _ := m.st.Look(wanted)
	return p(v.Batch, v.Index), wanted != 0 && !v.Filled
}

// next is a hand's next act, if it has one.
func (m *model) next(h int) (modelAct, bool) {
	if h < 0 || h >= m.hands {
		return modelAct{}, false
	}
	s := m.stacks[h]
	if len(s) == 0 {
		list := m.posted()
		if len(list) == 0 {
			return modelAct{}, false
		}
		return modelAct{claim: list[min(h, len(list)-1)]}, true
	}
	if at, waits := m.waitsFor(h); waits {
		return modelAct{claim: at}, slices.Contains(m.posted(), at)
	}
	return m.at(h, s[len(s)-1]), true
}

// step is a hand's step.
func (m *model) step(h int) bool {
	a, is := m.next(h)
	if !is {
		return false
	}
	if a.do == nil {
		m.b.Claim(a.claim, h)
		m.stacks[h] = append(m.stacks[h], &modelJob{place: a.claim})
		return true
	}
	j := m.stacks[h][len(m.stacks[h])-1]
	v, _ := m.st.Look(a.wanted)
	a.do(v.Cell)
	j.done++
	return true
}

// agrees holds what the hands tell, and what stands on board and store, against the model.
func (m *model) agrees(t *testing.T, w world) {
	t.Helper()
	for h := -1; h <= m.hands; h++ {
		_, ready := m.next(h)
		if got := w.x.Ready(h); got != ready {
			t.Fatalf("Ready(%d): %v", h, got)
		}
		var stack []api.Place
		if h >= 0 && h < m.hands {
			for _, j := range m.stacks[h] {
				stack = append(stack, j.place)
			}
		}
		if got := w.x.Stack(h); !slices.Equal(got, stack) {
			t.Fatalf("Stack(%d): %v, not %v", h, got, stack)
		}
	}
	if w.b.Complete() != m.b.Complete() || w.b.Laid() != m.b.Laid() {
		t.Fatalf("Laid %d, Complete %d, not %d, %d", w.b.Laid(), w.b.Complete(), m.b.Laid(), m.b.Complete())
	}
	for n := max(1, m.b.Complete()); n <= m.b.Laid(); n++ {
		size, _ := m.b.Size(n)
		for i := range size {
			m.agreesAt(t, w, p(n, i))
		}
	}
	for part := range m.st.Parts() {
		for _, k := range m.st.Keys(part) {
			if got, want := w.st.Chain(k), m.st.Chain(k); !slices.Equal(got, want) {
				t.Fatalf("at %v there stand %v, not %v", k, got, want)
			}
		}
	}
}

// agreesAt holds what stands on the board of a transaction against the model.
func (m *model) agreesAt(t *testing.T, w world, at api.Place) {
	t.Helper()
	if got, want := w.b.Holder(at), m.b.Holder(at); got != want {
		t.Fatalf("%v is claimed by %d, not %d", at, got, want)
	}
	got, e := w.b.Outcome(at)
	want, f := m.b.Outcome(at)
	if e != f || !sameOutcome(got, want) {
		t.Fatalf("Outcome(%v): %v, %d, not %v, %d", at, got, e, want, f)
	}
}

// few is a few keys, at which transactions meet often.
func few() []api.Key {
	return []api.Key{{Row: -1}, {Row: 0}, {Row: 1}, {Row: 7}, {Table: 1, Row: -1}, {Table: 1}, {Table: 65535, Row: 1}}
}

// anySet is a set of n of the keys.
func anySet(r *rand.Rand, all []api.Key, n int) []api.Key {
	var list []api.Key
	for _, i := range r.Perm(len(all))[:n] {
		list = append(list, all[i])
	}
	list, _ = keys.Sort(list)
	return list
}

// anyTx is a sound transaction that reads and writes some of the keys; small amounts, so that some fail and some don't.
func anyTx(r *rand.Rand, lib []api.Proc, all []api.Key) api.Tx {
	x := api.Tx{Proc: r.Intn(len(lib))}
	program := lib[x.Proc].Program
	for range program.Args {
		x.Args = append(x.Args, int64(r.Intn(7)-2))
	}
	x.Reads, x.Writes = anySet(r, all, program.Reads), anySet(r, all, program.Writes)
	if program.Reads == program.Writes && r.Intn(2) == 0 {
		x.Writes = slices.Clone(x.Reads)
	}
	return x
}

// anyWrong is a well-formed transaction that is hardly sound.
func anyWrong(r *rand.Rand, all []api.Key) api.Tx {
	return api.Tx{Proc: r.Intn(20), Args: make([]int64, r.Intn(3)), Reads: anySet(r, all, r.Intn(4)), Writes: anySet(r, all, r.Intn(4))}
}

// anyBatch is a batch, an empty one now and then; wrong: one of so many is not sound (0: none).
func anyBatch(r *rand.Rand, lib []api.Proc, all []api.Key, wrong int) []api.Tx {
	var b []api.Tx
	for range r.Intn(7) {
		if wrong > 0 && r.Intn(wrong) == 0 {
			b = append(b, anyWrong(r, all))
		} else {
			b = append(b, anyTx(r, lib, all))
		}
	}
	return b
}

// anyPlan is a plan with room for very many versions.
func anyPlan(r *rand.Rand, lib []api.Proc) plan {
	hands := 1 + r.Intn(6)
	if r.Intn(6) == 0 {
		hands = 64
	}
	return plan{lib: lib, parts: 1 + r.Intn(5), capacity: api.MaxCapacity, workers: 1 + r.Intn(4), ahead: 1 + r.Intn(5), hands: hands}
}

// pair is a world and a model, in each of which the same is done.
type pair struct {
	w world
	m *model
}

// pairOf is a pair of a plan; behind a batch that is not 0 something stands already.
func pairOf(t *testing.T, l plan) pair {
	t.Helper()
	var worlds [2]world
	for i := range worlds {
		st, _ := store.New(l.parts, l.capacity)
		if l.latest > 0 {
			for at, k := range few()[:3] {
				v, _ := st.Insert(k, 1, at)
				st.Fill(v, api.Cell{Is: at > 0, Value: int64(5 * at)})
			}
		}
		worlds[i] = l.over(t, st)
	}
	return pair{worlds[0], modelOf(worlds[1])}
}

// act does something in both; false: it was no hand's step.
func (both pair) act(t *testing.T, r *rand.Rand, h int) bool {
	t.Helper()
	w, m := both.w, both.m
	switch r.Intn(12) {
	case 0:
		if w.b.Latest() < w.b.Complete()+6 {
			list := anyBatch(r, w.lib, few(), 5)
			w.posts(t, list)
			m.posts(t, list)
		}
	case 1:
		n := w.b.Complete() - r.Intn(2)
		w.b.Forget(n)
		m.b.Forget(n)
	case 2, 3, 4:
		k := r.Intn(w.workers)
		w.b.Step(k)
		m.b.Step(k)
	default:
		got, want := w.x.Step(h), m.step(h)
		if got != want {
			t.Fatalf("Step(%d): %v", h, got)
		}
		return got
	}
	return false
}

// 12.2, 12.3: whatever workers and hands do, the hands do and tell what the chapter's words tell.
func TestModel(t *testing.T) {
	r := rand.New(rand.NewSource(12))
	lib := bank(t)
	steps, finished := 0, 0
	for range 150 {
		l := anyPlan(r, lib)
		l.latest = r.Intn(2) * 5
		both := pairOf(t, l)
		h := 0
		for i := range 1200 {
			if r.Intn(3) == 0 { // a hand goes on for a while
				h = r.Intn(l.hands)
			}
			if both.act(t, r, h) {
				steps++
			}
			if l.hands < 10 || i%10 == 0 {
				both.m.agrees(t, both.w)
			}
		}
		finished += both.w.b.Complete() - l.latest
	}
	if steps < 30000 || finished < 1000 {
		t.Errorf("%d steps and %d complete batches show little", steps, finished)
	}
}

// ahead tells whether a place is ahead of another.
func ahead(a, b api.Place) bool {
	return a.Batch < b.Batch || a.Batch == b.Batch && a.Index < b.Index
}

// 12.7: what a hand waits for is ahead of all that it has begun, and another hand has it.
func TestWaitsForAhead(t *testing.T) {
	r := rand.New(rand.NewSource(127))
	lib := bank(t)
	waiting := 0
	for range 150 {
		both := pairOf(t, anyPlan(r, lib))
		for range 500 {
			both.act(t, r, r.Intn(both.w.hands))
			for h := range both.w.hands {
				if both.w.x.Ready(h) || len(both.w.x.Stack(h)) == 0 {
					continue
				}
				waiting++
				at, waits := both.m.waitsFor(h)
				if holder := both.w.b.Holder(at); !waits || holder < 0 || holder == h {
					t.Fatalf("hand %d waits for %v, and %d has it", h, at, holder)
				}
				for _, begun := range both.w.x.Stack(h) {
					if !ahead(at, begun) {
						t.Fatalf("hand %d waits for %v, and has begun %v", h, at, both.w.x.Stack(h))
					}
				}
			}
		}
	}
	if waiting < 1000 {
		t.Errorf("%d times a hand has waited: that shows little", waiting)
	}
}

// The model's own answers to the chapter's examples, lest it be as wrong as what it is held against.
func TestModelExamples(t *testing.T) {
	m := modelOf(example(t, 64))
	for _, want := range []api.Place{p(2, 1), p(2, 0), p(1, 0)} {
		if a, is := m.next(63); !is || a.claim != want || !m.step(63) {
			t.Fatalf("it claims %v, not %v", a.claim, want)
		}
	}
	n := 3
	for m.step(63) || m.step(0) {
		n++
	}
	if text := fmt.Sprint(m.st.Chain(at(1)), m.st.Chain(at(2))); n != 40 || text != "[{2 1 true {true 6}} {2 0 true {true 6}} {1 0 true {true 10}}] [{2 1 true {true 9}} {2 0 true {true 9}} {1 1 true {true 5}}]" {
		t.Errorf("%d steps, and there stand %s", n, text)
	}
}
