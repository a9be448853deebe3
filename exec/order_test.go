package exec_test

import (
	"fmt"
	"math/rand"
	"slices"
	"testing"

	"prelude/api"
	"prelude/batch"
	"prelude/serial"
)

// expected is what the plain database says of a transaction: its outcome, what stands at its writes behind it, and how many steps it takes.
type expected struct {
	outcome api.Outcome
	left    []api.Cell
	steps   int
}

// meaning is what the plain database says of each transaction of a log. It runs them one by one; one that is not sound does nothing.
func meaning(t *testing.T, lib []api.Proc, log [][]api.Tx) map[api.Place]expected {
	t.Helper()
	db, e := serial.New(lib)
	if e != api.OK {
		t.Fatal(e)
	}
	said := map[api.Place]expected{}
	for n, list := range log {
		for i, x := range list {
			said[p(n+1, i)] = meaningOf(t, db, lib, x)
		}
	}
	return said
}

// meaningOf runs one transaction.
func meaningOf(t *testing.T, db *serial.DB, lib []api.Proc, x api.Tx) expected {
	t.Helper()
	said := expected{steps: 2 + len(x.Reads) + len(x.Writes)}
	if _, e := batch.Check(lib, []api.Tx{x}); e != api.OK {
		said.outcome = api.Outcome{Code: e, Read: stands(db, x.Reads)}
	} else {
		outcomes, err := db.Apply([]api.Tx{x})
		if err != nil {
			t.Fatal(err)
		}
		ran, _ := db.Steps(db.Latest())
		said.outcome, said.steps = outcomes[0], said.steps+ran
	}
	said.left = stands(db, x.Writes)
	return said
}

// stands is what stands at keys now.
func stands(db *serial.DB, set []api.Key) []api.Cell {
	var list []api.Cell
	for _, k := range set {
		c, _ := db.At(db.Latest(), k)
		list = append(list, c)
	}
	return list
}

// game is a world in which a log is played, and what must come of it.
type game struct {
	world
	log   [][]api.Tx
	said  map[api.Place]expected
	taken map[api.Place]int // the steps at each transaction
	seen  int               // the batches that were looked at when they were complete
}

// gameOf is a game that is not begun.
func gameOf(t *testing.T, l plan, log [][]api.Tx) *game {
	t.Helper()
	return &game{world: l.make(t), log: log, said: meaning(t, l.lib, log), taken: map[api.Place]int{}}
}

// ready is the tasks that have a step to take: the workers, and behind them the hands.
func (g *game) ready() []int {
	var list []int
	for k := range g.workers {
		if g.b.Ready(k) {
			list = append(list, k)
		}
	}
	for h := range g.hands {
		if g.x.Ready(h) {
			list = append(list, g.workers+h)
		}
	}
	return list
}

// take lets a task take a step, and counts it for the transaction that it was at.
func (g *game) take(t *testing.T, task int) {
	t.Helper()
	if task < g.workers {
		g.b.Step(task)
		return
	}
	h := task - g.workers
	was := g.x.Stack(h)
	if !g.x.Step(h) {
		t.Fatalf("hand %d is ready, and takes no step", h)
	}
	is := g.x.Stack(h)
	switch {
	case len(is) == len(was)+1 && slices.Equal(is[:len(was)], was):
		g.taken[is[len(was)]]++
	case len(was) > 0 && (slices.Equal(is, was) || slices.Equal(is, was[:len(was)-1])):
		g.taken[was[len(was)-1]]++
	default:
		t.Fatalf("a step of hand %d has made %v of its stack %v", h, is, was)
	}
}

// undoneCount is how many transactions of the laid batches are not done.
func (g *game) undoneCount() int {
	n := 0
	for at := range g.said {
		if _, e := g.b.Outcome(at); e == api.ErrClaim {
			n++
		}
	}
	return n
}

// holds looks at what 12.5 says of the stacks and of the ready hands.
func (g *game) holds(t *testing.T) {
	t.Helper()
	seen := map[api.Place]int{}
	undone, ready := g.undoneCount(), false
	for h := range g.hands {
		ready = ready || g.x.Ready(h)
		s := g.x.Stack(h)
		if len(s) > undone {
			t.Fatalf("Stack(%d): %v, and %d are not done", h, s, undone)
		}
		for i, at := range s {
			if seen[at]++; seen[at] > 1 || i > 0 && !ahead(at, s[i-1]) || g.b.Holder(at) != h {
				t.Fatalf("Stack(%d): %v; %v stands in stacks %d times, and %d has it", h, s, at, seen[at], g.b.Holder(at))
			}
		}
	}
	if undone > 0 && !ready {
		t.Fatalf("%d are not done, and no hand is ready", undone)
	}
}

// fits looks that each version that is filled has the cell that stands behind its transaction.
func (g *game) fits(t *testing.T) {
	t.Helper()
	for _, k := range few() {
		for _, v := range g.st.Chain(k) {
			at := p(v.Batch, v.Index)
			i := slices.Index(g.log[v.Batch-1][v.Index].Writes, k)
			if v.Filled && v.Cell != g.said[at].left[i] {
				t.Fatalf("the version of %v at %v has %v, not %v", k, at, v.Cell, g.said[at].left[i])
			}
		}
	}
}

// looks holds the batches that have become complete against what the plain database says, and each of their versions.
func (g *game) looks(t *testing.T) {
	t.Helper()
	for ; g.seen < g.b.Complete(); g.seen++ {
		for i := range g.log[g.seen] {
			at := p(g.seen+1, i)
			want := g.said[at]
			g.outcome(t, at, want.outcome)
			if g.taken[at] != want.steps {
				t.Errorf("%v took %d steps, not %d", at, g.taken[at], want.steps)
			}
			note, _ := g.b.Note(at)
			for w, v := range note.Own {
				g.filled(t, v, want.left[w])
			}
		}
	}
	if t.Failed() {
		t.FailNow()
	}
}

// sweep takes out what no transaction needs that is not done, and forgets the complete batches.
func (g *game) sweep() {
	floor := g.b.Complete()
	g.b.Forget(floor)
	for _, k := range few() {
		for v := g.st.Before(g.st.Visible(k, floor)); v != 0; v = g.st.Before(g.st.Visible(k, floor)) {
			g.st.Remove(v)
		}
	}
}

// picks is ways to say whose step is next, out of those that are ready: any, the first, the last, the same one as long as it can, each in its turn.
func picks() []func(r *rand.Rand, ready []int) int {
	last := 0
	return []func(r *rand.Rand, ready []int) int{
		func(r *rand.Rand, ready []int) int { return ready[r.Intn(len(ready))] },
		func(r *rand.Rand, ready []int) int { return ready[0] },
		func(r *rand.Rand, ready []int) int { return ready[len(ready)-1] },
		func(r *rand.Rand, ready []int) int {
			if !slices.Contains(ready, last) || r.Intn(20) == 0 {
				last = ready[r.Intn(len(ready))]
			}
			return last
		},
		func(r *rand.Rand, ready []int) int {
			i, _ := slices.BinarySearch(ready, last+1)
			last = ready[i%len(ready)]
			return last
		},
	}
}

// play plays a game to its end: its batches are posted when they are, and tasks take steps by the pick.
func (g *game) play(t *testing.T, r *rand.Rand, pick func(*rand.Rand, []int) int, sweeps bool) {
	t.Helper()
	posted := 0
	for n := 0; ; n++ {
		ready := g.ready()
		if posted < len(g.log) && (len(ready) == 0 || r.Intn(9) == 0) {
			g.posts(t, g.log[posted])
			posted++
			continue
		}
		if len(ready) == 0 {
			break
		}
		g.take(t, pick(r, ready))
		g.looks(t)
		if n%3 == 0 {
			g.holds(t)
		}
		if sweeps && r.Intn(15) == 0 {
			g.sweep()
		}
		if n%29 == 0 {
			g.fits(t)
		}
	}
	g.holds(t)
	g.fits(t)
	if g.b.Complete() != len(g.log) {
		t.Fatalf("at rest Complete is %d, not %d", g.b.Complete(), len(g.log))
	}
}

// 12.4, 12.5, 12.6: whatever steps workers and hands take, each outcome, each version and the steps of each transaction are what the plain database says; somebody is always ready; and the stacks are in order.
func TestEveryOrder(t *testing.T) {
	r := rand.New(rand.NewSource(124))
	lib := bank(t)
	committed, failed := 0, 0
	for range 40 {
		var log [][]api.Tx
		for range 10 {
			log = append(log, anyBatch(r, lib, few(), 9))
		}
		for way, pick := range picks() {
			for _, sweeps := range []bool{false, true} {
				g := gameOf(t, anyPlan(r, lib), log)
				if g.play(t, r, pick, sweeps); t.Failed() {
					t.Fatalf("by the picks %d", way)
				}
				for _, said := range g.said {
					if said.outcome.Commit {
						committed++
					} else {
						failed++
					}
				}
			}
		}
	}
	if committed < 2000 || failed < 1000 {
		t.Errorf("%d have committed, %d have not: that shows little", committed, failed)
	}
}

// 12.4: outcomes are those of the plain database that has run the same batches as they are.
func TestSameBatches(t *testing.T) {
	r := rand.New(rand.NewSource(1244))
	lib := bank(t)
	for range 60 {
		db, _ := serial.New(lib)
		w := anyPlan(r, lib).make(t)
		for n := 1; n <= 8; n++ {
			list := anyBatch(r, lib, few(), 0)
			w.posts(t, list)
			want, err := db.Apply(list)
			if err != nil {
				t.Fatal(err)
			}
			for w.b.Complete() < n {
				w.b.Step(r.Intn(w.workers))
				w.x.Step(r.Intn(w.hands))
			}
			for i := range list {
				w.outcome(t, p(n, i), want[i])
			}
			for _, k := range few() {
				stood, _ := db.At(n, k)
				if v, _ := w.st.Look(w.st.Visible(k, n)); v.Cell != stood {
					t.Errorf("behind batch %d there stands %v at %v, not %v", n, v.Cell, k, stood)
				}
			}
		}
	}
}

// crowds is logs in which transactions stand in one another's way, each short enough to be played in every order.
func crowds() [][][]api.Tx {
	late := api.Tx{Proc: pLate, Args: []int64{3, 0}, Reads: set(1), Writes: set(0, 1)}
	return [][][]api.Tx{
		{{put(10, 0), put(5, 1)}, {move(4, 0, 1), move(20, 0, 1)}},
		{{bump(0), bump(0), bump(0), bump(0)}},
		{{put(1, 0), keep(0), keep(0)}, {tx(pShow, set(0, 1), nil), keep(0)}},
		{{bump(0), tx(pCopy, set(0), set(1)), tx(pCopy, set(1), set(0))}, {late, bump(1)}},
		{{keep(0), {Proc: 40, Reads: set(0, 1), Writes: set(0, 1)}, tx(pSwap, set(0, 1), set(0, 1)), keep(1)}},
	}
}

// paths is what is known of the games that were played so far.
type paths struct {
	plan
	log   [][]api.Tx
	seen  map[string]int // the states that were come to
	ends  int
	steps int
}

// replay is the game behind some picks.
func (y *paths) replay(t *testing.T, picks []int) *game {
	t.Helper()
	g := gameOf(t, y.plan, y.log)
	g.posts(t, y.log...)
	g.lays()
	for _, h := range picks {
		g.take(t, g.workers+h)
	}
	return g
}

// key is what tells states apart: how many steps each transaction has behind it, and who has it.
func (y *paths) key(g *game) string {
	var stacks [][]api.Place
	for h := range g.hands {
		stacks = append(stacks, g.x.Stack(h))
	}
	return fmt.Sprint(stacks, g.taken)
}

// walk goes on from some picks in every way.
func (y *paths) walk(t *testing.T, picks []int) {
	t.Helper()
	g := y.replay(t, picks)
	key := y.key(g)
	if y.seen[key]++; y.seen[key] > 1 {
		return
	}
	g.holds(t)
	g.fits(t)
	ready := g.ready()
	if len(ready) == 0 {
		y.ends++
		g.looks(t)
		if g.b.Complete() != len(y.log) || len(picks) != y.steps {
			t.Fatalf("by %v Complete is %d behind %d steps", picks, g.b.Complete(), len(picks))
		}
	}
	for _, task := range ready {
		y.walk(t, append(slices.Clone(picks), task-g.workers))
	}
}

// 12.4 to 12.6: every order of steps of two and of three hands, one by one.
func TestAllOrders(t *testing.T) {
	for _, log := range crowds() {
		for _, hands := range []int{2, 3} {
			l := small(t, hands)
			y := &paths{plan: l, log: log, seen: map[string]int{}}
			for _, said := range meaning(t, l.lib, log) {
				y.steps += said.steps
			}
			if y.walk(t, nil); y.ends == 0 || len(y.seen) < 100 {
				t.Errorf("%d states and %d ends show little", len(y.seen), y.ends)
			}
		}
	}
}
