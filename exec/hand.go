package exec

import (
	"slices"

	"prelude/api"
)

// What a hand is about to do.
const (
	toBegin  = iota // to claim one of the transactions that are posted
	toHelp          // to claim the transaction that must fill the version that is wanted
	toTake          // to take a read
	toRun           // to run an instruction
	toFill          // to fill a version
	toFinish        // to finish the transaction
	toWait          // it has no act: so this is how many acts there are
)

// acts is how each act is done, by what a hand is about to do.
func acts() [toWait]func(*hand) {
	return [toWait]func(*hand){
		toBegin:  (*hand).begin,
		toHelp:   (*hand).help,
		toTake:   (*hand).take,
		toRun:    (*hand).run,
		toFill:   (*hand).fill,
		toFinish: (*hand).finish,
	}
}

// hand is a hand, and the transactions that it has begun, the first claimed one first.
type hand struct {
	*ground
	number int
	stack  []*job
}

// next is what a hand is about to do.
func (a *hand) next() int {
	if len(a.stack) == 0 {
		if _, is := a.board.Next(); !is {
			return toWait
		}
		return toBegin
	}
	wanted := a.top().wanted()
	if _, told := a.tells(wanted); told {
		return a.top().next()
	}
	if a.posted(a.filler(wanted)) {
		return toHelp
	}
	return toWait
}

// top is the transaction that a hand is at.
func (a *hand) top() *job { return a.stack[len(a.stack)-1] }

// begin claims one of the transactions that are posted.
func (a *hand) begin() { a.claim(a.choice()) }

// choice is, of the transactions that are posted, the one with the hand's own number, or the last one: so hands begin apart from one another.
func (a *hand) choice() api.Place {
	choice, _ := a.board.Next()
	for range a.number {
		further, is := a.postedBehind(choice)
		if !is {
			break
		}
		choice = further
	}
	return choice
}

// help claims the transaction that must fill the version that is wanted.
func (a *hand) help() { a.claim(a.filler(a.top().wanted())) }

// claim claims a transaction that is posted: it is on top then.
func (a *hand) claim(p api.Place) {
	a.board.Claim(p, a.number)
	note, _ := a.board.Note(p)
	a.stack = append(a.stack, newJob(p, note, a.lib))
}

// take takes the next read.
func (a *hand) take() {
	cell, _ := a.tells(a.top().wanted())
	a.top().take(cell, a.lib)
}

// run runs the next instruction.
func (a *hand) run() { a.top().run() }

// fill fills the next version.
func (a *hand) fill() {
	j := a.top()
	kept, _ := a.tells(j.wanted())
	a.store.Fill(j.note.Own[j.filled], j.leaves(kept))
	j.filled++
}

// finish tells the board what the transaction on top has done, and takes it off the stack.
func (a *hand) finish() {
	j := a.top()
	a.board.Finish(j.place, j.outcome())
	last := len(a.stack) - 1
	a.stack = slices.Delete(a.stack, last, last+1)
}
