package engine_test

import (
	"fmt"
	"math/rand"
	"slices"
	"testing"

	"prelude/api"
)

// script is calls that let something in, of a database and its model, with no step between them.
type script struct {
	l        api.Layout
	capacity int
	calls    []func(p *player, m *model)
}

// posting lets a batch in.
func posting(b ...api.Tx) func(p *player, m *model) {
	return func(p *player, m *model) {
		p.e.Post(b)
		n, err := m.posts(b)
		if err != nil {
			panic(err)
		}
		p.due += m.batchSteps(n, p.l.Workers)
	}
}

// pinning pins a batch.
func pinning(n int) func(p *player, m *model) {
	return func(p *player, m *model) {
		p.e.Pin(n)
		m.book.Pin(n)
	}
}

// unpinning takes a pin away.
func unpinning(n int) func(p *player, m *model) {
	return func(p *player, m *model) {
		p.e.Unpin(n)
		m.unpins(n)
	}
}

// collecting is a collect.
func collecting(p *player, m *model) {
	p.e.Collect()
	p.due += m.collects() + 1
}

// begins is a database behind the script, of which no step was taken.
func (s script) begins(t *testing.T, m *model) *player {
	t.Helper()
	p := &player{e: open(t, s.l, s.capacity), l: s.l, capacity: s.capacity}
	for _, call := range s.calls {
		call(p, m)
	}
	return p
}

// orders goes through every order of steps behind a script. Where two of them lead to the same state, it goes on from there once.
type orders struct {
	script
	seen  map[string]bool
	rests int
}

// goes looks at the state behind some picks, and goes on with each pick that is possible there.
func (o *orders) goes(t *testing.T, picks []int) {
	t.Helper()
	m := newModel(t, o.capacity)
	p := o.begins(t, m)
	counts := map[int]int{}       // how many steps each task has taken
	claims := map[api.Place]int{} // which hand has begun each transaction
	for _, pick := range picks {
		counts[p.e.Step(pick)]++
		for h := range o.l.Hands {
			for _, at := range p.e.Stack(h) {
				claims[at] = h
			}
		}
	}
	state := fmt.Sprintln(told(p.e), counts, claims)
	if o.seen[state] {
		return
	}
	o.seen[state] = true
	p.holds(t, m)
	n := len(p.e.Ready())
	if n == 0 {
		o.rests++
		p.rests(t, m)
		ended(t, p, m)
	}
	for pick := range n {
		o.goes(t, append(slices.Clone(picks), pick))
	}
}

// ended looks at all that a database tells its clients at rest.
func ended(t *testing.T, p *player, m *model) {
	t.Helper()
	for n := range m.book.Latest() + 2 {
		for i := range 4 {
			got, f := p.e.Outcome(n, i)
			if want, g := m.outcomes(n, i); !sameOutcome(got, want) || f != g {
				t.Fatalf("Outcome(%d, %d): %v, %d, not %v, %d", n, i, got, f, want, g)
			}
		}
		for _, k := range few() {
			got, f := p.e.Read(n, k)
			if want, g := m.reads(n, k); got != want || f != g {
				t.Fatalf("Read(%d, %v): %v, %d, not %v, %d", n, k, got, f, want, g)
			}
		}
	}
	if v := p.e.View(); v.Steps != p.due {
		t.Fatalf("reading at rest has taken %d steps", v.Steps-p.due)
	}
}

// 15.9 to 15.13: every order of steps.
func TestEveryOrder(t *testing.T) {
	for i, s := range []script{
		{api.Layout{Workers: 1, Hands: 2, Parts: 1, Ahead: 1}, 4, []func(*player, *model){posting(put(1, 1), copied(1, 2)), collecting, posting(copied(2, 1), rest())}},
		{api.Layout{Workers: 2, Hands: 2, Parts: 2, Ahead: 2}, 8, []func(*player, *model){posting(put(1, 1)), pinning(1), posting(copied(1, 2), copied(2, 3)), posting(drop(1), copied(3, 1)), collecting, posting(rest())}},
		{api.Layout{Workers: 2, Hands: 1, Parts: 2, Ahead: 3}, 4, []func(*player, *model){posting(put(1, 1), put(2, 2)), posting(), collecting, posting(keep(1, 2)), collecting, posting(keep(2, 3))}},
		{api.Layout{Workers: 1, Hands: 3, Parts: 1, Ahead: 4}, 6, []func(*player, *model){posting(keep(1, 2)), pinning(0), pinning(1), posting(drop(1)), collecting, unpinning(1), posting(copied(2, 1)), collecting}},
	} {
		o := &orders{script: s, seen: map[string]bool{}}
		o.goes(t, nil)
		t.Logf("script %d: %d states, %d of them at rest", i, len(o.seen), o.rests)
	}
}

// 15.11: at every moment there are no more versions than the charge and what collects have let go that is not taken out yet; and all else that must hold at every moment, step by step.
func TestMoments(t *testing.T) {
	for seed := range int64(60) {
		g := newGame(t, seed)
		p := g.players[0]
		letGo, taken := 0, 0
		for range 60 {
			switch n := g.m.book.Latest() - g.r.Intn(3); g.r.Intn(8) {
			case 0, 1, 2:
				b := []api.Tx{g.anyTx(), g.anyTx()}
				if m, err := g.m.posts(b); err == nil {
					posts(t, p.e, m, b...)
					p.due += g.m.batchSteps(m, p.l.Workers)
				}
			case 3:
				fails(t, "Pin", p.e.Pin(n), g.m.book.Pin(n))
			case 4, 5:
				n = g.anyNumber()
				fails(t, "Unpin", p.e.Unpin(n), g.m.unpins(n))
			default:
				gone := g.m.collects()
				number(t, "Collect", p.e.Collect(), gone)
				p.due += gone + 1
				letGo += gone
			}
			for range g.r.Intn(40) {
				before := p.e.View().Live
				p.step(t, g.r)
				v := p.e.View()
				taken += max(before-v.Live, 0)
				if v.Live > v.Charge+letGo-taken {
					t.Fatalf("%v, and %d that are let go and not taken out", v, letGo-taken)
				}
				p.holds(t, g.m)
			}
		}
		p.e.Drain()
		p.rests(t, g.m)
		ended(t, p, g.m)
	}
}

// manners is ways to pick, by the ready tasks: each keeps to a liking of its own.
func manners(l api.Layout) map[string]func(r *rand.Rand, list []int) int {
	liking := func(likes func(at int) bool) func(*rand.Rand, []int) int {
		return func(r *rand.Rand, list []int) int {
			if i := slices.IndexFunc(list, likes); i >= 0 {
				return i
			}
			return r.Intn(len(list))
		}
	}
	return map[string]func(r *rand.Rand, list []int) int{
		"any":             func(r *rand.Rand, list []int) int { return r.Int() },
		"the first":       func(*rand.Rand, []int) int { return 0 },
		"the last":        func(*rand.Rand, []int) int { return -1 },
		"workers first":   liking(func(at int) bool { return at < l.Workers }),
		"hands first":     liking(func(at int) bool { return at >= l.Workers && at < l.Workers+l.Hands }),
		"the last hand":   liking(func(at int) bool { return at == l.Workers+l.Hands-1 }),
		"the last two":    liking(func(at int) bool { return at >= l.Workers+l.Hands-1 }),
		"no first hand":   liking(func(at int) bool { return at != l.Workers }),
		"no first worker": liking(func(at int) bool { return at != 0 }),
	}
}

// 15.9, 15.12: whoever is liked, what comes out is the same, behind the same number of steps.
func TestManners(t *testing.T) {
	r := rand.New(rand.NewSource(15))
	for _, l := range layouts() {
		for name, pick := range manners(l) {
			s := script{l, 60, []func(*player, *model){
				posting(several()[0]...), pinning(1), posting(several()[1]...), posting(several()[2]...), posting(), collecting,
				posting(bump(1), bump(1), bump(2)), pinning(4), posting(move(1, 1, 2), copied(3, 1), show(1, 2)), unpinning(1), collecting, posting(several()[1]...),
			}}
			m := newModel(t, s.capacity)
			p := s.begins(t, m)
			for {
				list := p.e.Ready()
				if len(list) == 0 {
					break
				}
				p.e.Step(pick(r, list))
			}
			t.Run(fmt.Sprint(l, name), func(t *testing.T) {
				p.rests(t, m)
				p.holds(t, m)
				ended(t, p, m)
			})
		}
	}
}

// 15.9, 15.12: chains of transactions that all hang on one another, done from their end on.
func TestLongRow(t *testing.T) {
	for _, l := range layouts() {
		e := open(t, l, 1000)
		for n := 1; n <= 8; n++ {
			var b []api.Tx
			for range api.MaxTxs {
				b = append(b, bump(1))
			}
			posts(t, e, n, b...)
		}
		for e.Step(-1) >= 0 {
		}
		last(t, e, row(1), value(8*api.MaxTxs))
		number(t, "Steps", e.View().Steps, 8*(api.MaxTxs*(2+4+6)+l.Workers))
		outcome(t, e, 8, 63, api.Outcome{Commit: true, Out: []int64{8*api.MaxTxs - 1}, Read: []api.Cell{value(8*api.MaxTxs - 1)}})
		number(t, "Collect", e.Collect(), 8*api.MaxTxs-1)
		number(t, "Drain", e.Drain(), 8*api.MaxTxs)
		number(t, "Live", e.View().Live, 1)
	}
}
