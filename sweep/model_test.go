package sweep_test

import (
	"math"
	"math/rand"
	"slices"
	"testing"

	"prelude/api"
	"prelude/keys"
)

// modelJob is a job of the model.
type modelJob struct {
	floor int
	pins  []int
}

// model is the chapter's words taken by the letter, over a board and a store of its own: at each step all chains are looked through.
type model struct {
	world // its sweeper is not used
	jobs  []modelJob
}

func (m *model) order(floor int, pins []int) {
	if floor > m.b.Latest() {
		floor = m.b.Latest()
	}
	m.jobs = append(m.jobs, modelJob{floor, slices.Clone(pins)})
	m.b.Hold()
}

func (m *model) ready() bool { return len(m.jobs) > 0 && m.b.Complete() >= m.jobs[0].floor }

// victim is the oldest version to take out of the least key that has one, 0 if none has.
func (m *model) victim(j modelJob) int {
	set, _ := keys.Sort(m.all())
	for _, k := range set {
		drops := letter(m.st.Chain(k), j.floor, j.pins)
		for i, v := range slices.Backward(m.numbers(k)) {
			if drops[i] {
				return v
			}
		}
	}
	return 0
}

func (m *model) step() bool {
	if !m.ready() {
		return false
	}
	if v := m.victim(m.jobs[0]); v != 0 {
		m.st.Remove(v)
		return true
	}
	m.jobs = m.jobs[1:]
	m.b.Free()
	return true
}

// agrees holds what the sweeper tells, and what stands on board and store, against the model.
func (m *model) agrees(t *testing.T, w world) {
	t.Helper()
	if w.s.Waiting() != len(m.jobs) || w.s.Ready() != m.ready() {
		t.Fatalf("Waiting: %d, Ready: %v, not %d, %v", w.s.Waiting(), w.s.Ready(), len(m.jobs), m.ready())
	}
	if w.b.Latest() != m.b.Latest() || w.b.Laid() != m.b.Laid() || w.b.Complete() != m.b.Complete() {
		t.Fatalf("Latest %d, Laid %d, Complete %d, not %d, %d, %d", w.b.Latest(), w.b.Laid(), w.b.Complete(), m.b.Latest(), m.b.Laid(), m.b.Complete())
	}
	for n := max(0, m.b.Complete()-1); n <= m.b.Latest()+2; n++ {
		if w.b.Held(n) != m.b.Held(n) {
			t.Fatalf("Held(%d): %v", n, w.b.Held(n))
		}
	}
	if w.st.Live() != m.st.Live() {
		t.Fatalf("%d versions, not %d", w.st.Live(), m.st.Live())
	}
	for _, k := range m.all() {
		if got, want := w.numbers(k), m.numbers(k); !slices.Equal(got, want) {
			t.Fatalf("at %v there stand %v, not %v", k, got, want)
		}
	}
}

// few is a few keys, so that their chains are long.
func few() []api.Key {
	return []api.Key{{Row: -1}, {Row: 0}, {Row: 7}, {Table: 1, Row: -5}, {Table: 1, Row: 2}, {Table: 65535, Row: 1}}
}

// anyTxs is a batch whose transactions write some keys.
func anyTxs(r *rand.Rand) []api.Tx {
	list := make([]api.Tx, r.Intn(5))
	for i := range list {
		for _, k := range few() {
			if r.Intn(3) == 0 {
				list[i].Writes = append(list[i].Writes, k)
			}
		}
	}
	return list
}

// anyFloor is a floor, mostly near the latest batch.
func anyFloor(r *rand.Rand, latest int) int {
	switch r.Intn(12) {
	case 0:
		return math.MaxInt
	case 1:
		return math.MinInt
	case 2:
		return r.Intn(latest + 2)
	}
	return latest - r.Intn(4)
}

// anyPins is some pins, in any order.
func anyPins(r *rand.Rand, latest int) []int {
	var list []int
	for range r.Intn(5) {
		list = append(list, latest+2-r.Intn(12))
	}
	return list
}

// anyVersion is the number of some version, 0 if there is none.
func (w world) anyVersion(r *rand.Rand) int {
	var list []int
	for _, k := range w.all() {
		list = append(list, w.numbers(k)...)
	}
	if len(list) == 0 {
		return 0
	}
	return list[r.Intn(len(list))]
}

// posted is the places of the transactions that are there and not claimed.
func (w world) posted() []api.Place {
	var list []api.Place
	for n := w.b.Complete() + 1; n <= w.b.Laid(); n++ {
		size, _ := w.b.Size(n)
		for i := range size {
			if note, _ := w.b.Note(p(n, i)); note.State == api.TxPosted {
				list = append(list, p(n, i))
			}
		}
	}
	return list
}

// turn does one and the same thing to both worlds.
func (m *model) turn(t *testing.T, r *rand.Rand, w world) {
	t.Helper()
	switch r.Intn(24) {
	case 0, 1:
		list := anyTxs(r)
		w.posts(t, list)
		m.posts(t, list)
	case 2:
		floor, pins := anyFloor(r, m.b.Latest()), anyPins(r, m.b.Latest())
		w.s.Order(floor, pins)
		m.order(floor, pins)
	case 3: // somebody else takes a version out
		if v := m.anyVersion(r); v != 0 && r.Intn(3) == 0 {
			w.remove(t, v)
			m.remove(t, v)
		}
	case 4: // somebody else puts a hold, or frees one
		if r.Intn(8) == 0 {
			w.b.Hold()
			m.b.Hold()
		} else if r.Intn(8) == 0 {
			w.b.Free()
			m.b.Free()
		}
	case 5:
		n := r.Intn(m.b.Latest() + 2)
		w.b.Forget(n)
		m.b.Forget(n)
	case 6, 7, 8, 9, 10:
		if list := m.posted(); len(list) > 0 {
			at := list[r.Intn(len(list))]
			w.finish(t, at)
			m.finish(t, at)
		}
	case 11, 12, 13, 14:
		if got, want := w.s.Step(), m.step(); got != want {
			t.Fatalf("Step: %v, not %v", got, want)
		}
	default:
		k := r.Intn(m.workers)
		if got, want := w.b.Step(k), m.b.Step(k); got != want {
			t.Fatalf("the board's Step(%d): %v, not %v", k, got, want)
		}
	}
}

// 13.2 to 13.4: whatever is done between the steps, each step is that of the chapter's words.
func TestByTheLetter(t *testing.T) {
	for seed := range int64(300) {
		r := rand.New(rand.NewSource(seed))
		parts, workers, ahead, latest := 1+r.Intn(5), 1+r.Intn(3), 1+r.Intn(5), r.Intn(3)*4
		capacity := 60 + 200*r.Intn(2) // no door is there: a store that is full may stay so
		make := func() world {
			st := newStore(t, parts, capacity)
			for n := 1; n <= latest; n++ {
				st.Insert(few()[n%4], n, n)
			}
			return over(t, st, workers, ahead, latest)
		}
		w, m := make(), &model{world: make()}
		for range 1200 {
			m.turn(t, r, w)
			m.agrees(t, w)
		}
	}
}
