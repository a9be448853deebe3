package sched_test

import (
	"slices"
	"testing"

	"prelude/sched"
)

// spoil writes over a list, and over the spare room behind its end.
func spoil[E any](list []E, with E) {
	list = list[:cap(list)]
	for i := range list {
		list[i] = with
	}
}

// roomy is a list with spare room behind its end, in which something stands.
func roomy[E any](spare E, list ...E) []E {
	room := slices.Concat(list, []E{spare, spare, spare})
	return room[:len(list)]
}

// same looks that a list, with its spare room, is as it was.
func same[E comparable](t *testing.T, list, was []E) {
	t.Helper()
	if list = list[:cap(list)]; !slices.Equal(list, was) {
		t.Errorf("a list that was handed in has become %v, not %v", list, was)
	}
}

// whole is a copy of a list with its spare room.
func whole[E any](list []E) []E { return slices.Clone(list[:cap(list)]) }

// 14.1: the list of tasks is not changed and not kept, but the tasks themselves are.
func TestTasksNotKept(t *testing.T) {
	c, d := sched.NewChore(2), sched.NewChore(2)
	list := roomy[sched.Task](sched.NewChore(9), nil, c, d)
	was := whole(list)
	l := sched.New(list...)
	places(t, l, 1, 2)
	takes(t, l, 1, 2)
	same(t, list, was)
	spoil(list, sched.Task(sched.NewChore(7)))
	places(t, l, 1, 2)
	drains(t, l, 100, 3)
	stands(t, c, false, 0)
	stands(t, d, false, 0)
}

// 14.1: the list of the chores behind which one is made is not changed and not kept, but the chores themselves are.
func TestBehindNotKept(t *testing.T) {
	c, ended, other := sched.NewChore(1), sched.NewChore(0), sched.NewChore(5)
	list := roomy(other, ended, nil, c, c)
	was := whole(list)
	d := sched.NewChore(2, list...)
	stands(t, d, false, 2)
	d.Step()
	same(t, list, was)
	spoil(list, other)
	stands(t, d, false, 2)
	c.Step()
	stands(t, d, true, 2)
	d.Step()
	stands(t, d, true, 1)

	free := roomy(other, ended, nil)
	e := sched.NewChore(1, free...)
	spoil(free, other)
	stands(t, e, true, 1)
}

// 14.1: picks are not changed.
func TestPicksNotChanged(t *testing.T) {
	picks := roomy(77, 3, -1, 0, 12, 5)
	was := whole(picks)
	plays(t, sched.New(sched.NewChore(2), sched.NewChore(2)), picks, 4)
	same(t, picks, was)
}

// R4: who changes the picks amid a Play changes nothing there.
func TestPicksChangedAmid(t *testing.T) {
	list := probes(true, true, true)
	picks := []int{0, 1, 2, 1}
	list[0].then = func() { spoil(picks, 0) }
	plays(t, lineOf(list), picks, 4)
	stepped(t, list, 1, 2, 1)
}

// 14.1: what is answered is new memory.
func TestNewMemory(t *testing.T) {
	list := probes(true, true, false, true, true)
	l := lineOf(list)
	kept := l.Ready()
	spoil(l.Ready(), 99)
	places(t, l, 0, 1, 3, 4)
	list[1].ready = false
	places(t, l, 0, 3, 4)
	spoil(l.Ready(), 2)
	takes(t, l, 1, 3)
	if !slices.Equal(kept, []int{0, 1, 3, 4}) {
		t.Errorf("an answer has become %v", kept)
	}
	one, two := l.Ready(), l.Ready()
	spoil(one, -8)
	if !slices.Equal(two, []int{0, 3, 4}) {
		t.Errorf("two answers share memory: %v", two)
	}
}

// R6: two lines of other tasks, and two chores, know nothing of one another.
func TestTwoOfEach(t *testing.T) {
	a, b := sched.NewChore(3), sched.NewChore(3)
	l, m := sched.New(a), sched.New(b)
	drains(t, l, 2, 2)
	stands(t, a, true, 1)
	stands(t, b, true, 3)
	steps(t, m, 0)
	takes(t, m, 0, 0)
	steps(t, l, 2)
	steps(t, m, 1)
}
