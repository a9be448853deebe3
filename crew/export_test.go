package crew

import "prelude/api"

// Play is a crew without goroutines: a test takes the steps of its workers and hands, one at a time.
type Play struct {
	c    *crew
	sent int
	held []*task // by each hand: what it has claimed, or was woken with; nil: nothing
}

// NewPlay is a play of which no step was taken. What is handed in must be such that Run runs it.
func NewPlay(l api.Layout, lib []api.Proc, batches [][]api.Tx) *Play {
	return &Play{c: newCrew(l, lib, batches), held: make([]*task, l.Hands)}
}

// Steps is every step that can be taken.
func (p *Play) Steps() []func() {
	var list []func()
	if p.maySend() {
		list = append(list, p.send)
	}
	for number, inbox := range p.c.inboxes {
		if len(inbox) > 0 {
			list = append(list, func() { p.lay(number) })
		}
	}
	for h := range p.held {
		list = append(list, p.Hand(h)...)
	}
	return list
}

// Hand is every step that a hand can take.
func (p *Play) Hand(h int) []func() {
	if t := p.held[h]; t != nil {
		return []func(){func() { p.held[h] = p.c.goOn(t) }}
	}
	var list []func()
	if len(p.c.posted) > 0 {
		list = append(list, func() { p.begin(h) })
	}
	if len(p.c.woken) > 0 {
		list = append(list, func() { p.held[h] = <-p.c.woken })
	}
	return list
}

// maySend tells whether a further batch may be under way.
func (p *Play) maySend() bool {
	return p.sent < len(p.c.sheets) && (p.sent < p.c.ahead || p.complete(p.sent-p.c.ahead))
}

// complete tells whether the batch at a place is complete.
func (p *Play) complete(i int) bool {
	select {
	case <-p.c.sheets[i].complete:
		return true
	default:
		return false
	}
}

// send sends the next batch to all workers.
func (p *Play) send() {
	for _, inbox := range p.c.inboxes {
		inbox <- p.c.sheets[p.sent]
	}
	p.sent++
}

// lay lets a worker lay its versions of the next batch.
func (p *Play) lay(number int) {
	s := <-p.c.inboxes[number]
	for _, t := range s.tasks {
		t.lay(number)
	}
	p.c.leave(s)
}

// begin lets a hand take the next transaction that is posted.
func (p *Play) begin(h int) {
	if t := <-p.c.posted; t.claim() {
		p.held[h] = t
	}
}

// Hold is the place of the transaction that a hand holds; false: it holds none.
func (p *Play) Hold(h int) (api.Place, bool) {
	if p.held[h] == nil {
		return api.Place{}, false
	}
	return p.held[h].place, true
}

// Complete is how many batches are complete.
func (p *Play) Complete() int {
	n := 0
	for i := range p.c.sheets {
		if p.complete(i) {
			n++
		}
	}
	return n
}

// Answer is what is answered behind the last step.
func (p *Play) Answer() ([][]api.Outcome, []api.Row) { return p.c.outcomes(), p.c.rows() }

// Feed is the sending of batches alone: a channel from which each worker gets them, a call that makes the batch at a place complete, and a channel that is closed behind the last one.
func Feed(l api.Layout, batches [][]api.Tx) ([]chan *sheet, func(i int), <-chan struct{}) {
	c := newCrew(l, nil, batches)
	over := make(chan struct{})
	go func() {
		c.feed()
		close(over)
	}()
	return c.inboxes, func(i int) { close(c.sheets[i].complete) }, over
}

// Turn puts so many of the transactions that are posted behind the others.
func (p *Play) Turn(n int) {
	for range n {
		p.c.posted <- <-p.c.posted
	}
}
