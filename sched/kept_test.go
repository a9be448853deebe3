package sched

import "testing"

// 14.2: a chore keeps none of those that it has not to wait for.
func TestNothingKept(t *testing.T) {
	ended, c := NewChore(0), NewChore(1)
	if d := NewChore(2, ended, nil, ended); len(d.behind) != 0 {
		t.Errorf("%d that have ended are kept", len(d.behind))
	}
	if d := NewChore(0, c); len(d.behind) != 0 {
		t.Errorf("a chore without steps keeps %d", len(d.behind))
	}
	d := NewChore(2, c)
	c.Step()
	d.Step()
	if len(d.behind) != 0 || d.left != 1 {
		t.Errorf("a chore that has begun, of %d steps left, keeps %d", d.left, len(d.behind))
	}
}

// 14.2: a row of chores, each behind the last one, isn't kept by its end.
func TestRowNotKept(t *testing.T) {
	last := NewChore(1)
	for range 1000 {
		next := NewChore(1, last)
		last.Step()
		last = next
	}
	n := 0
	for c := last; len(c.behind) > 0; c = c.behind[0] {
		n++
	}
	if n > 1 {
		t.Errorf("%d are kept", n)
	}
}

// 14.1: a line of no tasks doesn't keep the memory of the list that was handed in.
func TestEmptyListNotKept(t *testing.T) {
	list := []Task{NewChore(1)}
	if l := New(list[:0]...); cap(l.tasks) != 0 || l.tasks != nil {
		t.Error("the list is kept")
	}
}
