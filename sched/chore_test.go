package sched_test

import (
	"math"
	"testing"

	"prelude/api"
	"prelude/sched"
)

// 14.2: how many steps a chore has: none below 0, and 65536 at the most.
func TestHowManySteps(t *testing.T) {
	for _, x := range []struct{ steps, left int }{
		{math.MinInt, 0}, {-65537, 0}, {-1, 0}, {0, 0}, {1, 1}, {2, 2}, {1000, 1000},
		{65535, 65535}, {65536, 65536}, {65537, 65536}, {1 << 31, 65536}, {math.MaxInt, 65536},
	} {
		c := sched.NewChore(x.steps)
		if c == nil {
			t.Fatalf("NewChore(%d): none", x.steps)
		}
		stands(t, c, x.left > 0, x.left)
		for left := x.left; left > 0; left-- {
			if !c.Ready() || c.Left() != left {
				t.Fatalf("NewChore(%d): Ready: %v, Left: %d, not %d", x.steps, c.Ready(), c.Left(), left)
			}
			c.Step()
		}
		stands(t, c, false, 0)
		c.Step()
		stands(t, c, false, 0)
	}
	if api.MaxChore != 65536 {
		t.Errorf("the limit is %d", api.MaxChore)
	}
}

// 14.2: a chore waits till each one behind which it was made has ended, in whatever order they end, and takes no step till then.
func TestWaitsForEach(t *testing.T) {
	for _, order := range [][]int{{0, 1, 2}, {0, 2, 1}, {1, 0, 2}, {1, 2, 0}, {2, 0, 1}, {2, 1, 0}} {
		list := []*sched.Chore{sched.NewChore(1), sched.NewChore(3), sched.NewChore(2)}
		c := sched.NewChore(2, list...)
		for _, i := range order {
			for list[i].Left() > 0 {
				stands(t, c, false, 2)
				c.Step()
				stands(t, c, false, 2)
				list[i].Step()
			}
		}
		stands(t, c, true, 2)
		c.Step()
		stands(t, c, true, 1)
		c.Step()
		stands(t, c, false, 0)
	}
}

// 14.2: one may be named more than once, and nil ones among them count as ended.
func TestNamedTwice(t *testing.T) {
	c := sched.NewChore(2)
	d := sched.NewChore(1, nil, c, c, nil, c)
	stands(t, d, false, 1)
	c.Step()
	stands(t, c, true, 1)
	stands(t, d, false, 1)
	c.Step()
	stands(t, d, true, 1)
	d.Step()
	stands(t, d, false, 0)
	stands(t, sched.NewChore(3, nil, nil), true, 3)
	stands(t, sched.NewChore(3, []*sched.Chore{}...), true, 3)
}

// 14.2: a chore that waits is waited for as well, by those behind it alone.
func TestInARow(t *testing.T) {
	a := sched.NewChore(1)
	b := sched.NewChore(1, a)
	c := sched.NewChore(1, b)
	other := sched.NewChore(1, a)
	c.Step()
	b.Step()
	stands(t, b, false, 1)
	stands(t, c, false, 1)
	a.Step()
	stands(t, b, true, 1)
	stands(t, c, false, 1)
	stands(t, other, true, 1)
	other.Step()
	stands(t, c, false, 1)
	b.Step()
	stands(t, c, true, 1)
}

// 14.2: a chore of no steps has ended, also while those behind which it was made have not; and it never has a step.
func TestNoneLeftIsEnded(t *testing.T) {
	a := sched.NewChore(1)
	empty := sched.NewChore(0, a)
	c := sched.NewChore(1, empty)
	stands(t, empty, false, 0)
	stands(t, c, true, 1)
	a.Step()
	stands(t, empty, false, 0)
	empty.Step()
	stands(t, empty, false, 0)
}

// 14.2: who has ended already when a chore is made is not waited for.
func TestEndedWhenMade(t *testing.T) {
	a, b := sched.NewChore(1), sched.NewChore(1)
	a.Step()
	stands(t, sched.NewChore(1, a), true, 1)
	c := sched.NewChore(1, a, b)
	stands(t, c, false, 1)
	b.Step()
	stands(t, c, true, 1)
}

// 14.2: a chore behind many waits for the last one of them.
func TestBehindMany(t *testing.T) {
	var list []*sched.Chore
	for range 1000 {
		list = append(list, sched.NewChore(1))
	}
	c := sched.NewChore(1, list...)
	for _, b := range list {
		stands(t, c, false, 1)
		b.Step()
	}
	stands(t, c, true, 1)
}

// 14.2: to be asked changes nothing.
func TestAskedOften(t *testing.T) {
	c := sched.NewChore(2)
	d := sched.NewChore(2, c)
	for range 10 {
		stands(t, c, true, 2)
		stands(t, d, false, 2)
	}
}

// 14.2: a chore is a Task.
func TestChoreIsTask(t *testing.T) {
	c := sched.NewChore(2)
	var task sched.Task = c
	if !task.Ready() {
		t.Error("Ready: false")
	}
	task.Step()
	stands(t, c, true, 1)
}
