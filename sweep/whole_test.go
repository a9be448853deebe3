package sweep_test

import (
	"math/rand"
	"slices"
	"testing"

	"prelude/api"
	"prelude/asm"
	"prelude/batch"
	"prelude/book"
	"prelude/exec"
	"prelude/serial"
)

// bankText is procedures that read, keep, and leave out of what they declare.
const bankText = `
proc move args 1 reads 2 writes 2 locals 0
  get 0
  arg 0
  lt
  zero go
  push 1
  abort
go:
  get 0
  arg 0
  sub
  put 0
  get 1
  arg 0
  add
  put 1
end
proc put args 1 reads 0 writes 1 locals 0
  arg 0
  put 0
end
proc drop args 0 reads 0 writes 1 locals 0
  del 0
end
proc keep args 0 reads 0 writes 2 locals 0
end
proc show args 0 reads 2 writes 0 locals 0
  get 0
  out
  has 1
  out
end
`

// whole is the door, both phases and the sweeper, with the plain database beside them.
type whole struct {
	world
	lib    []api.Proc
	hands  int
	x      *exec.Hands
	book   *book.Book
	plain  *serial.DB
	orders []int // of each job that is not done: the latest batch when it was ordered
	due    int   // the sweeper's steps, by what the collects have told
	taken  int   // and those that it has taken
}

// newWhole is a whole with nothing in it.
func newWhole(t *testing.T, r *rand.Rand, capacity int) *whole {
	t.Helper()
	lib, err := asm.Assemble(bankText)
	if err != nil {
		t.Fatal(err)
	}
	h := &whole{lib: lib, hands: 1 + r.Intn(3)}
	h.world = over(t, newStore(t, 1+r.Intn(4), capacity), 1+r.Intn(3), 1+r.Intn(4), 0)
	x, e := exec.New(h.b, h.st, lib, h.hands)
	door, f := book.New(capacity)
	plain, g := serial.New(lib)
	if e != api.OK || f != api.OK || g != api.OK {
		t.Fatal(e, f, g)
	}
	h.x, h.book, h.plain = x, door, plain
	return h
}

// anyTx is a call of one of the procedures, that is sound.
func (h *whole) anyTx(r *rand.Rand) api.Tx {
	proc := r.Intn(len(h.lib))
	program := h.lib[proc].Program
	pick := func(n int) []api.Key {
		places := r.Perm(len(few()))[:n]
		slices.Sort(places)
		var set []api.Key
		for _, i := range places {
			set = append(set, few()[i])
		}
		return set
	}
	tx := api.Tx{Proc: proc, Reads: pick(program.Reads), Writes: pick(program.Writes)}
	for range program.Args {
		tx.Args = append(tx.Args, int64(r.Intn(9)))
	}
	return tx
}

// submits hands a batch to the door, and posts it, if it is let in.
func (h *whole) submits(t *testing.T, r *rand.Rand) {
	t.Helper()
	var txs []api.Tx
	for range r.Intn(4) {
		txs = append(txs, h.anyTx(r))
	}
	n, e := h.book.Admit(batch.Writes(txs))
	if e == api.ErrRoom {
		return
	}
	if _, err := h.plain.Apply(txs); e != api.OK || err != nil || h.b.Post(txs) != n {
		t.Fatalf("%v: %d, %v", txs, e, err)
	}
}

// collects lets versions go.
func (h *whole) collects() {
	h.due += h.book.Collect() + 1
	h.s.Order(h.book.Floor(), h.pinned())
	h.orders = append(h.orders, h.b.Latest())
}

// pinned is the pinned batches.
func (h *whole) pinned() []int {
	var list []int
	for _, pin := range h.book.Pins() {
		list = append(list, pin.Batch)
	}
	return list
}

// tasks is what can take a step now.
func (h *whole) tasks() []func() bool {
	var list []func() bool
	for k := range h.workers {
		if h.b.Ready(k) {
			list = append(list, func() bool { return h.b.Step(k) })
		}
	}
	for k := range h.hands {
		if h.x.Ready(k) {
			list = append(list, func() bool { return h.x.Step(k) })
		}
	}
	if h.s.Ready() {
		list = append(list, h.sweeps)
	}
	return list
}

// sweeps is a step of the sweeper.
func (h *whole) sweeps() bool {
	jobs := h.s.Waiting()
	ok := h.s.Step()
	h.taken++
	if h.s.Waiting() < jobs {
		h.orders = h.orders[1:]
	}
	return ok
}

// steps takes a step of some task that is ready; false, if there is none.
func (h *whole) steps(t *testing.T, r *rand.Rand) bool {
	t.Helper()
	list := h.tasks()
	if len(list) == 0 {
		return false
	}
	if !list[r.Intn(len(list))]() {
		t.Fatal("a task that is ready takes no step")
	}
	h.looks(t)
	return true
}

// looks looks at what must hold at every moment.
func (h *whole) looks(t *testing.T) {
	t.Helper()
	if len(h.orders) != h.s.Waiting() {
		t.Fatalf("Waiting: %d, not %d", h.s.Waiting(), len(h.orders))
	}
	if len(h.orders) > 0 && h.b.Laid() > h.orders[0] {
		t.Fatalf("batch %d is laid, and a job of batch %d is not done", h.b.Laid(), h.orders[0])
	}
	if left := h.due - h.taken - len(h.orders); h.st.Live() > h.book.Charge()+left {
		t.Fatalf("%d versions, with a charge of %d and %d to take out", h.st.Live(), h.book.Charge(), left)
	}
	for n := h.b.Complete() + 1; n <= h.b.Laid(); n++ {
		size, _ := h.b.Size(n)
		for i := range size {
			h.needed(t, p(n, i))
		}
	}
}

// needed looks that what a transaction reads or keeps is there, as long as it is not done.
func (h *whole) needed(t *testing.T, at api.Place) {
	t.Helper()
	note, _ := h.b.Note(at)
	if note.State == api.TxDone {
		return
	}
	for _, v := range slices.Concat(note.Reads, note.Before, note.Own) {
		if _, e := h.st.Look(v); v != 0 && e != api.OK {
			t.Fatalf("version %d, which %v needs, is not there", v, at)
		}
	}
}

// seen looks at what is seen behind a batch.
func (h *whole) seen(t *testing.T, n int) {
	t.Helper()
	for _, k := range few() {
		want, _ := h.plain.At(n, k)
		got, _ := h.st.Look(h.st.Visible(k, n))
		if got.Cell != want {
			t.Fatalf("behind batch %d there stands %v at %v, not %v", n, got.Cell, k, want)
		}
	}
}

// views looks at what the pinned batches that are complete see, and all from the floor on.
func (h *whole) views(t *testing.T) {
	t.Helper()
	for _, n := range h.pinned() {
		if n <= h.b.Complete() {
			h.seen(t, n)
		}
	}
	for n := h.book.Floor(); n <= h.b.Complete(); n++ {
		h.seen(t, n)
	}
}

// rests takes steps until none is ready, and looks at what must be then.
func (h *whole) rests(t *testing.T, r *rand.Rand) {
	t.Helper()
	for h.steps(t, r) {
	}
	if h.s.Waiting() != 0 || h.b.Complete() != h.b.Latest() || h.taken != h.due {
		t.Fatalf("at rest: %d jobs, Complete %d of %d, %d steps of the sweeper, not %d", h.s.Waiting(), h.b.Complete(), h.b.Latest(), h.taken, h.due)
	}
	if h.st.Live() != h.book.Charge() {
		t.Fatalf("at rest: %d versions, with a charge of %d", h.st.Live(), h.book.Charge())
	}
	for _, k := range few() {
		var got []api.Place
		for _, v := range slices.Backward(h.st.Chain(k)) {
			got = append(got, p(v.Batch, v.Index))
		}
		if want := h.book.Versions(k); !slices.Equal(got, want) {
			t.Fatalf("at rest there stand %v at %v, not %v", got, k, want)
		}
	}
	h.views(t)
}

// outcomes holds each transaction's outcome against the plain database's.
func (h *whole) outcomes(t *testing.T) {
	t.Helper()
	for n := 1; n <= h.b.Latest(); n++ {
		size, _ := h.b.Size(n)
		for i := range size {
			got, e := h.b.Outcome(p(n, i))
			want, f := h.plain.Outcome(n, i)
			if e != f || got.Commit != want.Commit || got.Code != want.Code || got.User != want.User || !slices.Equal(got.Out, want.Out) || !slices.Equal(got.Read, want.Read) {
				t.Fatalf("Outcome(%d, %d): %v, %d, not %v, %d", n, i, got, e, want, f)
			}
		}
	}
}

// 13.5: with the door, both phases and the sweeper in any order of steps: a job takes as many steps as the collect has let versions go, and one; nothing that was posted behind it is laid until it is done; nothing that somebody sees, reads or keeps is taken out; and at rest there stands just what the door counts.
func TestWhole(t *testing.T) {
	for seed := range int64(150) {
		r := rand.New(rand.NewSource(seed))
		h := newWhole(t, r, 10+r.Intn(30))
		for range 300 {
			switch r.Intn(10) {
			case 0, 1:
				h.submits(t, r)
			case 2:
				h.collects()
			case 3:
				h.book.Pin(h.book.Latest() - r.Intn(3))
			case 4:
				if list := h.pinned(); len(list) > 2 {
					h.book.Unpin(list[r.Intn(len(list))])
				}
			default:
				for range r.Intn(12) {
					h.steps(t, r)
				}
			}
			h.views(t)
			if r.Intn(60) == 0 {
				h.rests(t, r)
			}
		}
		h.rests(t, r)
		h.outcomes(t)
		h.collects()
		h.rests(t, r)
		h.outcomes(t)
	}
}
