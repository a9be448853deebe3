package engine_test

import (
	"errors"
	"fmt"
	"math"
	"math/rand"
	"slices"
	"testing"

	"prelude/api"
	"prelude/batch"
	"prelude/book"
	"prelude/engine"
	"prelude/keys"
	"prelude/serial"
)

// model is what the chapter says of the ten calls: the book of chapter 10 and the plain database of chapter 8. It knows of no step.
type model struct {
	lib   []api.Proc
	book  *book.Book
	plain *serial.DB
	log   [][]api.Tx // batch 1 first
	fresh bool       // the last thing let in was a collect, and nothing was unpinned since
}

// newModel is a model without batches.
func newModel(t *testing.T, capacity int) *model {
	t.Helper()
	lib := bank()
	door, e := book.New(capacity)
	plain, f := serial.New(lib)
	if e != api.OK || f != api.OK {
		t.Fatal(e, f)
	}
	return &model{lib: lib, book: door, plain: plain}
}

// posts is 15.2.
func (m *model) posts(b []api.Tx) (int, error) {
	if i, f := batch.Check(m.lib, b); f != api.OK {
		return 0, &api.TxError{Index: i, Err: f}
	}
	n, f := m.book.Admit(batch.Writes(b))
	if f != api.OK {
		return 0, f
	}
	if _, err := m.plain.Apply(b); err != nil {
		panic(err)
	}
	m.log = append(m.log, b)
	m.fresh = false
	return n, nil
}

// unpins is 15.3.
func (m *model) unpins(n int) api.Errno {
	f := m.book.Unpin(n)
	m.fresh = m.fresh && f != api.OK
	return f
}

// collects is 15.3.
func (m *model) collects() int {
	m.fresh = true
	return m.book.Collect()
}

// pinned tells whether a batch is pinned.
func (m *model) pinned(n int) bool {
	return slices.ContainsFunc(m.book.Pins(), func(p api.Pin) bool { return p.Batch == n })
}

// reads is 15.4.
func (m *model) reads(n int, k api.Key) (api.Cell, api.Errno) {
	if !m.pinned(n) {
		return api.Cell{}, api.ErrPin
	}
	return m.plain.At(n, k)
}

// lasts is 15.4.
func (m *model) lasts(k api.Key) (api.Cell, api.Errno) { return m.plain.At(m.plain.Latest(), k) }

// scans is 15.4.
func (m *model) scans(n int, from, to api.Key) ([]api.Row, api.Errno) {
	if !m.pinned(n) {
		return nil, api.ErrPin
	}
	if keys.Check(from) != api.OK || keys.Check(to) != api.OK {
		return nil, api.ErrKey
	}
	all, _ := m.plain.Rows(n)
	return slices.DeleteFunc(all, func(r api.Row) bool {
		return keys.Compare(r.Key, from) < 0 || keys.Compare(r.Key, to) > 0
	}), api.OK
}

// outcomes is 15.4.
func (m *model) outcomes(n, i int) (api.Outcome, api.Errno) {
	if n >= 1 && n <= m.book.Floor() {
		return api.Outcome{}, api.ErrGone
	}
	return m.plain.Outcome(n, i)
}

// snapshots is 15.5. Of a batch's versions of a key a collect keeps the last one at most: so its cell is what stands there behind the batch.
func (m *model) snapshots() api.Snapshot {
	m.collects()
	s := api.Snapshot{Latest: m.book.Latest(), Pins: m.book.Pins()}
	for _, k := range m.book.Keys() {
		c := api.Chain{Key: k}
		for _, p := range m.book.Versions(k) {
			cell, _ := m.plain.At(p.Batch, k)
			c.Versions = append(c.Versions, api.Stamp{Batch: p.Batch, Index: p.Index, Cell: cell})
		}
		s.Chains = append(s.Chains, c)
	}
	return s
}

// batchSteps is how many steps a batch takes, as W7 says.
func (m *model) batchSteps(n, workers int) int {
	sum, _ := m.plain.Steps(n)
	for _, x := range m.log[n-1] {
		sum += 2 + 2*len(x.Reads) + 2*len(x.Writes)
	}
	return sum + workers
}

// player is a database that must answer as the model does, whatever steps it takes.
type player struct {
	e        *engine.Engine
	l        api.Layout
	capacity int
	due      int // the steps until it is at rest, from its beginning on
}

// anyLayout is a layout.
func anyLayout(r *rand.Rand) api.Layout {
	if r.Intn(20) == 0 {
		return layouts()[r.Intn(len(layouts()))]
	}
	return api.Layout{Workers: 1 + r.Intn(4), Hands: 1 + r.Intn(4), Parts: 1 + r.Intn(5), Ahead: 1 + r.Intn(4)}
}

// steps takes some steps.
func (p *player) steps(t *testing.T, r *rand.Rand, m *model) {
	t.Helper()
	switch r.Intn(12) {
	case 0:
		p.e.Drain()
		p.rests(t, m)
	case 1:
		for range r.Intn(90) {
			p.e.Step(0)
		}
	case 2:
		for range r.Intn(90) {
			p.e.Step(-1)
		}
	case 3, 4, 5, 6:
		for range r.Intn(60) {
			p.step(t, r)
		}
	}
	p.holds(t, m)
}

// step is a step of one of the ready tasks.
func (p *player) step(t *testing.T, r *rand.Rand) {
	t.Helper()
	list, before := p.e.Ready(), p.e.View()
	pick := r.Int() - r.Int()
	at := p.e.Step(pick)
	after := p.e.View()
	if len(list) == 0 {
		if at != -1 || after.Steps != before.Steps {
			t.Fatalf("at rest Step is %d", at)
		}
		return
	}
	if at != list[modulo(pick, len(list))] || after.Steps != before.Steps+1 {
		t.Fatalf("Step(%d) of %v is %d; Steps is %d behind %d", pick, list, at, after.Steps, before.Steps)
	}
	sweeper := at == p.l.Workers+p.l.Hands
	if up := after.Live - before.Live; up > 1 || up < -1 || up == 1 && at >= p.l.Workers || up == -1 && !sweeper {
		t.Fatalf("a step of the task at %d has made %d versions of %d", at, after.Live, before.Live)
	}
}

// rests looks at what must be at rest: 15.12 and 15.13.
func (p *player) rests(t *testing.T, m *model) {
	t.Helper()
	v := p.e.View()
	if len(p.e.Ready()) != 0 || v.Complete != v.Latest || v.Steps != p.due || engine.Waiting(p.e) != 0 {
		t.Fatalf("%v at rest: %v, and %d jobs; it takes %d steps", p.l, v, engine.Waiting(p.e), p.due)
	}
	if v.Live != v.Charge {
		t.Fatalf("at rest: %d versions, with a charge of %d", v.Live, v.Charge)
	}
	for _, k := range few() {
		var got []api.Place
		for _, version := range slices.Backward(p.e.Versions(k)) {
			got = append(got, place(version.Batch, version.Index))
		}
		if want := m.book.Versions(k); !slices.Equal(got, want) {
			t.Fatalf("at rest there stand %v at %v, not %v", got, k, want)
		}
		if m.fresh && len(got) > 1+len(v.Pins) {
			t.Fatalf("behind a collect %v has %d versions, with %d pins", k, len(got), len(v.Pins))
		}
	}
}

// holds looks at what must be at every moment: 15.8, 15.10 to 15.12.
func (p *player) holds(t *testing.T, m *model) {
	t.Helper()
	v := p.e.View()
	if v.Latest != m.book.Latest() || v.Floor != m.book.Floor() || v.Charge != m.book.Charge() || !slices.Equal(v.Pins, m.book.Pins()) {
		t.Fatalf("View: %v", v)
	}
	if v.Live > p.capacity || v.Complete > engine.Laid(p.e) || v.Steps > p.due {
		t.Fatalf("View: %v; %d batches are laid, the capacity is %d, it takes %d steps", v, engine.Laid(p.e), p.capacity, p.due)
	}
	if rest := len(p.e.Ready()) == 0; rest != (v.Steps == p.due) {
		t.Fatalf("%v: it takes %d steps; ready are %v", v, p.due, p.e.Ready())
	} else if rest {
		p.rests(t, m)
	}
	for n := v.Complete + 1; n <= engine.Laid(p.e); n++ {
		for i := range m.log[n-1] {
			p.needs(t, place(n, i))
		}
	}
	for _, k := range few() {
		p.fits(t, m, k)
	}
}

// needs looks that each version that a transaction's note names is there, as long as it is not done.
func (p *player) needs(t *testing.T, at api.Place) {
	t.Helper()
	note, f := p.e.Note(at)
	if f != api.OK {
		t.Fatalf("Note(%v): %d", at, f)
	}
	if note.State == api.TxDone {
		return
	}
	for _, number := range slices.Concat(note.Reads, note.Before, note.Own) {
		if number != 0 && !engine.There(p.e, number) {
			t.Fatalf("version %d, which %v names, is not there", number, at)
		}
	}
}

// fits looks that what the pinned batches and the latest one see of a key is there, as soon as it is laid; and that of batches that are complete it has its cell.
func (p *player) fits(t *testing.T, m *model, k api.Key) {
	t.Helper()
	see := []int{m.book.Latest()}
	for _, pin := range m.book.Pins() {
		see = append(see, pin.Batch)
	}
	chain := p.e.Versions(k)
	for _, n := range see {
		want := api.Place{}
		for _, at := range m.book.Versions(k) {
			if at.Batch <= n {
				want = at
			}
		}
		if want.Batch == 0 || want.Batch > engine.Laid(p.e) {
			continue
		}
		i := slices.IndexFunc(chain, func(v api.Version) bool { return place(v.Batch, v.Index) == want })
		if i < 0 {
			t.Fatalf("what batch %d sees at %v, %v, is not there: %v", n, k, want, chain)
		}
		if cell, _ := m.plain.At(want.Batch, k); want.Batch <= p.e.View().Complete && (!chain[i].Filled || chain[i].Cell != cell) {
			t.Fatalf("%v has %v, not %v", k, chain[i], cell)
		}
	}
}

// game is a model, and databases that must answer as it does.
type game struct {
	r       *rand.Rand
	m       *model
	players []*player
}

// newGame is a game that is not begun.
func newGame(t *testing.T, seed int64) *game {
	t.Helper()
	r := rand.New(rand.NewSource(seed))
	capacity := 6 + r.Intn(40)
	g := &game{r: r, m: newModel(t, capacity)}
	for range 2 {
		l := anyLayout(r)
		g.players = append(g.players, &player{e: open(t, l, capacity), l: l, capacity: capacity})
	}
	return g
}

// same looks that all databases answer what the model answers.
func (g *game) same(t *testing.T, what, want string, call func(e *engine.Engine) string) {
	t.Helper()
	for _, p := range g.players {
		if got := call(p.e); got != want {
			t.Fatalf("%v: %s: %s, not %s", p.l, what, got, want)
		}
	}
}

// due counts further steps until rest.
func (g *game) due(steps func(p *player) int) {
	for _, p := range g.players {
		p.due += steps(p)
	}
}

// anyKey is a key, or none.
func (g *game) anyKey() api.Key {
	if g.r.Intn(15) == 0 {
		return noKeys()[g.r.Intn(len(noKeys()))]
	}
	return few()[g.r.Intn(len(few()))]
}

// anySet is a set of so many keys.
func (g *game) anySet(n int) []api.Key {
	places := g.r.Perm(len(few()))[:n]
	slices.Sort(places)
	var set []api.Key
	for _, i := range places {
		set = append(set, few()[i])
	}
	return set
}

// anyTx is a call of one of the procedures.
func (g *game) anyTx() api.Tx {
	proc := g.r.Intn(len(g.m.lib))
	program := g.m.lib[proc].Program
	x := api.Tx{Proc: proc, Reads: g.anySet(program.Reads), Writes: g.anySet(program.Writes)}
	for range program.Args {
		x.Args = append(x.Args, int64(g.r.Intn(12)-2))
	}
	return x
}

// anyBatch is a batch, mostly one that is sound.
func (g *game) anyBatch() []api.Tx {
	var b []api.Tx
	for range g.r.Intn(5) {
		b = append(b, g.anyTx())
	}
	if g.r.Intn(10) == 0 {
		list := wrong()
		b = append(b, list[g.r.Intn(len(list))].b...)
	}
	return b
}

// answer is what a call that answers a number and an error has answered, as text.
func answer(n int, err error) string {
	var at *api.TxError
	if errors.As(err, &at) {
		return fmt.Sprintln(n, "TxError", at.Index, at.Err)
	}
	var bad *api.ByteError
	if errors.As(err, &bad) {
		return fmt.Sprintln(n, "ByteError", bad.At, bad.Err)
	}
	return fmt.Sprintln(n, err)
}

// submits is a batch, by its bytes or as it is.
func (g *game) submits(t *testing.T) {
	t.Helper()
	b := g.anyBatch()
	data, f := batch.Encode(b)
	n, err := g.m.posts(b)
	want := answer(n, err)
	if n > 0 {
		g.due(func(p *player) int { return g.m.batchSteps(n, p.l.Workers) })
	}
	if f == api.OK && g.r.Intn(2) == 0 {
		g.same(t, fmt.Sprintf("Submit of %v", b), want, func(e *engine.Engine) string { return answer(e.Submit(data)) })
		return
	}
	g.same(t, fmt.Sprintf("Post(%v)", b), want, func(e *engine.Engine) string { return answer(e.Post(b)) })
}

// refuses is bytes that are no batch.
func (g *game) refuses(t *testing.T) {
	t.Helper()
	data, _ := batch.Encode([]api.Tx{g.anyTx()})
	data = data[:g.r.Intn(len(data))]
	_, err := batch.Accept(g.m.lib, data)
	g.same(t, fmt.Sprintf("Submit(%v)", data), answer(0, err), func(e *engine.Engine) string { return answer(e.Submit(data)) })
}

// anyNumber is a number of a batch, or none.
func (g *game) anyNumber() int {
	pins := g.m.book.Pins()
	switch g.r.Intn(8) {
	case 0:
		return g.r.Intn(g.m.book.Latest()+4) - 2
	case 1:
		return []int{math.MinInt, -1, 0, math.MaxInt}[g.r.Intn(4)]
	case 2, 3:
		return g.m.book.Latest() - g.r.Intn(2)
	}
	if len(pins) == 0 {
		return g.m.book.Floor()
	}
	return pins[g.r.Intn(len(pins))].Batch
}

// plays does one of the ten calls.
func (g *game) plays(t *testing.T) {
	t.Helper()
	n, i, k, to := g.anyNumber(), g.r.Intn(6)-1, g.anyKey(), g.anyKey()
	switch g.r.Intn(22) {
	case 0, 1, 2, 3, 4:
		g.submits(t)
	case 5:
		g.refuses(t)
	case 6, 7, 8:
		n = g.m.book.Latest() - g.r.Intn(3)
		g.same(t, fmt.Sprintf("Pin(%d)", n), fmt.Sprint(g.m.book.Pin(n)), func(e *engine.Engine) string { return fmt.Sprint(e.Pin(n)) })
	case 9:
		g.same(t, fmt.Sprintf("Pin(%d)", n), fmt.Sprint(g.m.book.Pin(n)), func(e *engine.Engine) string { return fmt.Sprint(e.Pin(n)) })
	case 10, 11, 12, 13:
		g.same(t, fmt.Sprintf("Unpin(%d)", n), fmt.Sprint(g.m.unpins(n)), func(e *engine.Engine) string { return fmt.Sprint(e.Unpin(n)) })
	case 14, 15:
		gone := g.m.collects()
		g.due(func(*player) int { return gone + 1 })
		g.same(t, "Collect", fmt.Sprint(gone), func(e *engine.Engine) string { return fmt.Sprint(e.Collect()) })
	case 16:
		g.same(t, fmt.Sprintf("Read(%d, %v)", n, k), fmt.Sprint(g.m.reads(n, k)), func(e *engine.Engine) string { return fmt.Sprint(e.Read(n, k)) })
	case 17:
		g.same(t, fmt.Sprintf("Last(%v)", k), fmt.Sprint(g.m.lasts(k)), func(e *engine.Engine) string { return fmt.Sprint(e.Last(k)) })
	case 18:
		g.same(t, fmt.Sprintf("Scan(%d, %v, %v)", n, k, to), fmt.Sprint(g.m.scans(n, k, to)), func(e *engine.Engine) string { return fmt.Sprint(e.Scan(n, k, to)) })
	case 19, 20:
		g.same(t, fmt.Sprintf("Outcome(%d, %d)", n, i), fmt.Sprint(g.m.outcomes(n, i)), func(e *engine.Engine) string { return fmt.Sprint(e.Outcome(n, i)) })
	case 21:
		if g.r.Intn(4) == 0 {
			g.snapshots(t)
		}
	}
}

// snapshots takes a snapshot; what is restored from it plays on beside, or in the stead of another one.
func (g *game) snapshots(t *testing.T) {
	t.Helper()
	charge := g.m.book.Charge()
	s := g.m.snapshots()
	g.due(func(*player) int { return charge - g.m.book.Charge() + 1 })
	g.same(t, "Snapshot", fmt.Sprint(s), func(e *engine.Engine) string { return fmt.Sprint(e.Snapshot()) })
	for _, p := range g.players {
		p.rests(t, g.m)
	}
	capacity := g.players[0].capacity
	l := anyLayout(g.r)
	p := &player{e: restored(t, l, capacity, s), l: l, capacity: capacity}
	if len(g.players) < 4 {
		g.players = append(g.players, p)
		return
	}
	g.players[1+g.r.Intn(3)] = p // the first one goes on from its New
}

// 15.2 to 15.14: databases of any layouts, with any steps between the calls, restored or not, answer as the model does; and at every moment, and at rest, what the chapter says holds.
func TestModel(t *testing.T) {
	for seed := range int64(120) {
		g := newGame(t, seed)
		for range 250 {
			g.plays(t)
			for _, p := range g.players {
				p.steps(t, g.r, g.m)
			}
		}
		for _, p := range g.players {
			for len(p.e.Ready()) > 0 {
				p.step(t, g.r)
			}
			p.holds(t, g.m)
		}
		for n := range g.m.log {
			for i := range g.m.log[n] {
				g.same(t, "Outcome", fmt.Sprint(g.m.outcomes(n+1, i)), func(e *engine.Engine) string { return fmt.Sprint(e.Outcome(n+1, i)) })
			}
		}
		g.snapshots(t)
	}
}
