package sched

import "prelude/api"

// Chore is a task of so many steps, that waits for others to end.
type Chore struct {
	left   int
	behind []*Chore // those that it may still have to wait for
}

// NewChore is a chore.
func NewChore(steps int, behind ...*Chore) *Chore {
	c := &Chore{left: min(max(steps, 0), api.MaxChore)}
	if !c.ended() {
		c.behind = notEnded(behind)
	}
	return c
}

// Ready tells whether the chore has a step to take.
func (c *Chore) Ready() bool {
	if c.ended() {
		return false
	}
	for _, b := range c.behind {
		if !b.ended() {
			return false
		}
	}
	return true
}

// Step is a chore's step.
func (c *Chore) Step() {
	if !c.Ready() {
		return
	}
	c.left--
	c.behind = nil // what has ended never begins anew, and a chain of chores would be kept for ever
}

// Left is how many steps are left.
func (c *Chore) Left() int { return c.left }

// ended tells whether no step is left; a chore that is not there has ended.
func (c *Chore) ended() bool { return c == nil || c.left == 0 }

// notEnded is those of some chores that one may have to wait for.
func notEnded(list []*Chore) []*Chore {
	var rest []*Chore
	for _, c := range list {
		if !c.ended() {
			rest = append(rest, c)
		}
	}
	return rest
}
