package sched_test

import (
	"slices"
	"testing"

	"prelude/sched"
)

// probe is a task that is ready as long as it is told so, and counts its steps.
type probe struct {
	ready bool
	steps int
	then  func() // what a step does beside
}

func (p *probe) Ready() bool { return p.ready }

func (p *probe) Step() {
	p.steps++
	if p.then != nil {
		p.then()
	}
}

// probes is tasks that are ready or not, as the list says.
func probes(ready ...bool) []*probe {
	var list []*probe
	for _, is := range ready {
		list = append(list, &probe{ready: is})
	}
	return list
}

// lineOf is a line of tasks of one kind.
func lineOf[T sched.Task](tasks []T) *sched.Line {
	var list []sched.Task
	for _, x := range tasks {
		list = append(list, x)
	}
	return sched.New(list...)
}

// stands looks at what a chore tells.
func stands(t *testing.T, c *sched.Chore, ready bool, left int) {
	t.Helper()
	if c.Ready() != ready || c.Left() != left {
		t.Errorf("Ready: %v, Left: %d, not %v, %d", c.Ready(), c.Left(), ready, left)
	}
}

// places looks at which places are ready.
func places(t *testing.T, l *sched.Line, want ...int) {
	t.Helper()
	if got := l.Ready(); !slices.Equal(got, want) {
		t.Errorf("Ready: %v, not %v", got, want)
	}
}

// takes looks at which place a pick takes.
func takes(t *testing.T, l *sched.Line, pick, want int) {
	t.Helper()
	if got := l.Take(pick); got != want {
		t.Errorf("Take(%d): %d, not %d", pick, got, want)
	}
}

// plays looks at how many steps are taken by picks.
func plays(t *testing.T, l *sched.Line, picks []int, want int) {
	t.Helper()
	if got := l.Play(picks); got != want {
		t.Errorf("Play(%v): %d, not %d", picks, got, want)
	}
}

// drains looks at how many steps are taken of the first ones.
func drains(t *testing.T, l *sched.Line, most, want int) {
	t.Helper()
	if got := l.Drain(most); got != want {
		t.Errorf("Drain(%d): %d, not %d", most, got, want)
	}
}

// steps looks at how many steps were taken in all.
func steps(t *testing.T, l *sched.Line, want int) {
	t.Helper()
	if got := l.Steps(); got != want {
		t.Errorf("Steps: %d, not %d", got, want)
	}
}

// stepped looks at how many steps each task has taken.
func stepped(t *testing.T, list []*probe, want ...int) {
	t.Helper()
	for i, p := range list {
		if p.steps != want[i] {
			t.Errorf("task %d has taken %d steps, not %d", i, p.steps, want[i])
		}
	}
}

// The chapter's example 1.
func TestExample1(t *testing.T) {
	c := sched.NewChore(2)
	stands(t, c, true, 2)
	d := sched.NewChore(1, c)
	stands(t, d, false, 1)
	d.Step()
	stands(t, d, false, 1)
	c.Step()
	c.Step()
	stands(t, c, false, 0)
	stands(t, d, true, 1)
	c.Step()
	stands(t, c, false, 0)
}

// The chapter's example 2.
func TestExample2(t *testing.T) {
	stands(t, sched.NewChore(-3), false, 0)
	stands(t, sched.NewChore(65537), true, 65536)
	stands(t, sched.NewChore(1, nil), true, 1)
	stands(t, sched.NewChore(1, sched.NewChore(0)), true, 1)
}

// The chapter's example 3.
func TestExample3(t *testing.T) {
	c := sched.NewChore(2)
	l := sched.New(c, sched.NewChore(1, c))
	places(t, l, 0)
	takes(t, l, 7, 0)
	takes(t, l, -1, 0)
	places(t, l, 1)
	takes(t, l, 0, 1)
	takes(t, l, 0, -1)
	steps(t, l, 3)
}

// The chapter's example 4.
func TestExample4(t *testing.T) {
	l := sched.New(sched.NewChore(1), sched.NewChore(1), sched.NewChore(1))
	takes(t, l, -1, 2)
	takes(t, l, 3, 1)
	takes(t, l, 0, 0)
}

// The chapter's example 5.
func TestExample5(t *testing.T) {
	l := sched.New()
	places(t, l)
	takes(t, l, 1, -1)
	plays(t, l, []int{1, 2, 3}, 0)
	drains(t, l, 9, 0)
	steps(t, l, 0)
}

// The chapter's example 6.
func TestExample6(t *testing.T) {
	c := sched.NewChore(3)
	l := sched.New(c, c)
	places(t, l, 0, 1)
	takes(t, l, 1, 1)
	stands(t, c, true, 2)
	drains(t, l, 1, 1)
	drains(t, l, -5, 0)
	drains(t, l, 100, 1)
	steps(t, l, 3)
}

// The chapter's example 7.
func TestExample7(t *testing.T) {
	plays(t, sched.New(sched.NewChore(2)), []int{0, 0, 0}, 2)
}
