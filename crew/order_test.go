package crew_test

import (
	"math/rand"
	"runtime"
	"testing"

	"prelude/api"
	"prelude/crew"
)

// plays takes steps of a play by picks, and behind the last pick the first step there is; it tells how many steps there were to pick from, each time.
func plays(p *crew.Play, picks []int) []int {
	var widths []int
	for {
		steps := p.Steps()
		if len(steps) == 0 {
			return widths
		}
		pick := 0
		if len(widths) < len(picks) {
			pick = picks[len(widths)]
		}
		widths = append(widths, len(steps))
		steps[pick]()
	}
}

// rests looks that a play has come to its end: all batches are complete, no hand holds anything, and the answer is the one that is wanted.
func rests(t *testing.T, p *crew.Play, l api.Layout, b log, want answer) {
	t.Helper()
	if n := p.Complete(); n != len(b) {
		t.Fatalf("%d batches are complete, not %d", n, len(b))
	}
	for h := range l.Hands {
		if at, is := p.Hold(h); is {
			t.Fatalf("hand %d holds %v", h, at)
		}
	}
	outcomes, rows := p.Answer()
	if got := (answer{outcomes, rows}); !got.same(want) {
		t.Fatalf("%v, not %v", got, want)
	}
}

// onward is the next list of picks, in the order of a counter whose digits have these widths; false: it was the last one.
func onward(picks, widths []int) ([]int, bool) {
	next := make([]int, len(widths))
	copy(next, picks)
	for i := len(next) - 1; i >= 0; i-- {
		if next[i]+1 < widths[i] {
			next[i]++
			return next[:i+1], true
		}
	}
	return nil, false
}

// 16.2, 16.3: every order of the steps of small crews ends, and with the same answer.
func TestEveryOrder(t *testing.T) {
	lib := bank(t)
	fails := api.Tx{Proc: pLate, Args: []int64{5, 1}, Reads: set(1), Writes: set(1, 2)}
	for _, c := range []struct {
		l api.Layout
		b log
	}{
		{api.Layout{Workers: 1, Hands: 2, Parts: 1, Ahead: 1}, example()},
		{api.Layout{Workers: 1, Hands: 2, Parts: 1, Ahead: 2}, example()},
		{api.Layout{Workers: 2, Hands: 2, Parts: 2, Ahead: 1}, log{{put(1, 1), put(2, 2)}, {move(1, 1, 2)}}},
		{api.Layout{Workers: 1, Hands: 2, Parts: 1, Ahead: 2}, log{{put(1, 1)}, {bump(1), bump(1)}}},
		{api.Layout{Workers: 2, Hands: 1, Parts: 2, Ahead: 2}, log{{put(1, 1), put(2, 2)}, {move(1, 1, 2)}, {}}},
		{api.Layout{Workers: 1, Hands: 3, Parts: 1, Ahead: 1}, log{{bump(1), bump(1), bump(1)}}},
		{api.Layout{Workers: 1, Hands: 3, Parts: 1, Ahead: 1}, log{{put(1, 1), keep(1), fails}}},
		{api.Layout{Workers: 1, Hands: 2, Parts: 1, Ahead: 1}, log{{put(3, 1), tx(pCopy, set(1), set(2)), tx(pShow, set(1, 2), nil), bump(1)}}},
	} {
		want := c.b.plain(t, lib)
		orders := 0
		for picks, more := []int(nil), true; more; orders++ {
			p := crew.NewPlay(c.l, lib, c.b)
			widths := plays(p, picks)
			rests(t, p, c.l, c.b, want)
			picks, more = onward(picks, widths)
		}
		if orders < 20 {
			t.Errorf("%v: there are %d orders", c.b, orders)
		}
	}
}

// 16.2, 16.3: any orders of the steps of any crews.
func TestAnyOrder(t *testing.T) {
	r := rand.New(rand.NewSource(1602))
	lib := bank(t)
	for range 150 {
		b := anyLog(r, lib, 3+r.Intn(6))
		want := b.plain(t, lib)
		l := anyLayout(r)
		p := crew.NewPlay(l, lib, b)
		lazy := r.Intn(4) // the first steps are those of workers: so hands begin late
		for steps := p.Steps(); len(steps) > 0; steps = p.Steps() {
			if r.Intn(4) < lazy {
				steps[0]()
			} else {
				steps[r.Intn(len(steps))]()
			}
		}
		rests(t, p, l, b, want)
	}
}

// laid is a play whose first batch is sent and laid.
func laid(l api.Layout, lib []api.Proc, b log) *crew.Play {
	p := crew.NewPlay(l, lib, b)
	p.Steps()[0]()
	p.Steps()[0]()
	return p
}

// hand lets a hand take its step, and looks at which transactions of the first batch the hands hold then (-1: none).
func hand(t *testing.T, p *crew.Play, h int, want ...int) {
	t.Helper()
	steps := p.Hand(h)
	if len(steps) != 1 {
		t.Fatalf("hand %d has %d steps", h, len(steps))
	}
	steps[0]()
	for other, w := range want {
		if at, is := p.Hold(other); is != (w >= 0) || is && at != (api.Place{Batch: 1, Index: w}) {
			t.Fatalf("hand %d holds %v, %v, not %d", other, at, is, w)
		}
	}
}

// 16.3: who wants what another hand must fill lets go of its transaction, and what has waited goes on in any hand.
func TestHandsWait(t *testing.T) {
	lib := bank(t)
	b := log{{put(1, 1), put(2, 2), bump(1), tx(pShow, set(1, 2), nil)}}
	l := api.Layout{Workers: 1, Hands: 4, Parts: 1, Ahead: 1}
	p := laid(l, lib, b)
	hand(t, p, 0, 0, -1, -1, -1)
	hand(t, p, 1, 0, 1, -1, -1)
	hand(t, p, 2, 0, 1, 2, -1)
	hand(t, p, 3, 0, 1, 2, 3)
	hand(t, p, 3, 0, 1, 2, -1)   // it wants the bump
	hand(t, p, 2, 0, 1, -1, -1)  // it wants the put at 1
	hand(t, p, 0, -1, 1, -1, -1) // which is done: the bump can go on
	hand(t, p, 0, 2, 1, -1, -1)
	hand(t, p, 0, -1, 1, -1, -1)
	hand(t, p, 2, -1, 1, 3, -1)
	hand(t, p, 2, -1, 1, -1, -1) // it wants the put at 2
	hand(t, p, 1, -1, -1, -1, -1)
	hand(t, p, 3, -1, -1, -1, 3)
	hand(t, p, 3, -1, -1, -1, -1)
	rests(t, p, l, b, b.plain(t, lib))
}

// 16.3: a hand that wants what nobody has claimed does that first, however far it goes back.
func TestHandsHelp(t *testing.T) {
	lib := bank(t)
	b := log{{put(5, 9), bump(9), keep(9), tx(pCopy, set(9), set(1))}}
	l := api.Layout{Workers: 1, Hands: 2, Parts: 1, Ahead: 1}
	p := laid(l, lib, b)
	p.Turn(3)
	hand(t, p, 0, 3, -1)
	hand(t, p, 0, 2, -1) // what is copied is what is kept
	hand(t, p, 0, 1, -1) // which is what is counted up
	hand(t, p, 0, 0, -1) // from what is put
	p.Turn(1)
	hand(t, p, 1, 0, -1) // the bump is claimed
	hand(t, p, 1, 0, -1) // and what keeps it
	hand(t, p, 1, 0, -1) // and the put
	hand(t, p, 0, -1, -1)
	for _, h := range []int{1, 0, 1} {
		hand(t, p, h)
		hand(t, p, h, -1, -1)
	}
	rests(t, p, l, b, b.plain(t, lib))
}

// How it is meant: no more than the batches that may be under way are sent, until the first of them is complete.
func TestAhead(t *testing.T) {
	for _, ahead := range []int{1, 3, 16} {
		inboxes, complete, over := crew.Feed(api.Layout{Workers: 2, Hands: 1, Parts: 1, Ahead: ahead}, make(log, 20))
		for range ahead {
			<-inboxes[0]
			<-inboxes[1]
		}
		for i := range 20 {
			for range 100 {
				runtime.Gosched()
			}
			if i+ahead < 20 && len(inboxes[0])+len(inboxes[1]) > 0 {
				t.Fatalf("more than %d batches are under way", ahead)
			}
			complete(i)
			<-inboxes[0] // the next one, or the end
			<-inboxes[1]
		}
		<-over
	}
}
