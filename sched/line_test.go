package sched_test

import (
	"math"
	"math/big"
	"slices"
	"testing"

	"prelude/sched"
)

// 14.3: the places of those that are ready, rising; a nil task has its place, and is never ready.
func TestReadyPlaces(t *testing.T) {
	list := probes(true, false, true, true, false)
	l := sched.New(nil, list[0], list[1], nil, nil, list[2], list[3], list[4], nil)
	places(t, l, 1, 5, 6)
	steps(t, l, 0)
	stepped(t, list, 0, 0, 0, 0, 0)
	takes(t, l, 1, 5)
	stepped(t, list, 0, 0, 1, 0, 0)
	drains(t, l, 2, 2)
	stepped(t, list, 2, 0, 1, 0, 0)
}

// 14.3, 14.4, 14.6: a line of nil tasks alone is as one that has nothing to do.
func TestNilTasks(t *testing.T) {
	for _, l := range []*sched.Line{sched.New(nil), sched.New(nil, nil, nil), sched.New([]sched.Task{}...), sched.New([]sched.Task(nil)...)} {
		places(t, l)
		takes(t, l, 0, -1)
		takes(t, l, math.MinInt, -1)
		plays(t, l, []int{0, -1, 5}, 0)
		plays(t, l, nil, 0)
		drains(t, l, math.MaxInt, 0)
		steps(t, l, 0)
	}
}

// 14.3: any kind of task will do, also one that can't be held against others, and one that is a nil pointer but no nil Task.
func TestKindsOfTasks(t *testing.T) {
	n := 0
	l := sched.New(byFunc(func() { n++ }), byList{1, 2}, byMap{1: 1}, byValue{3}, (*byPointer)(nil), sched.NewChore(1))
	places(t, l, 0, 1, 2, 3, 4, 5)
	plays(t, l, []int{0, 0, 1, 2, 3, 4, 5}, 7)
	if n != 2 {
		t.Errorf("the function was called %d times", n)
	}
	places(t, l, 0, 1, 2, 3, 4)
}

type byFunc func()

func (f byFunc) Ready() bool { return true }
func (f byFunc) Step()       { f() }

type byList []int

func (b byList) Ready() bool { return len(b) == 2 }
func (b byList) Step()       {}

type byMap map[int]int

func (m byMap) Ready() bool { return m[1] > 0 }
func (m byMap) Step()       { m[1]++ }

type byValue struct{ n int }

func (v byValue) Ready() bool { return v.n == 3 }
func (v byValue) Step()       {}

type byPointer struct{}

func (p *byPointer) Ready() bool { return p == nil }
func (p *byPointer) Step()       {}

// modulo is the number of a pick, by the rule of whole numbers of any size.
func modulo(pick, n int) int {
	return int(new(big.Int).Mod(big.NewInt(int64(pick)), big.NewInt(int64(n))).Int64())
}

// 14.4: the pick modulo the number of the ready ones, brought to 0 and above, by rising places.
func TestPicks(t *testing.T) {
	picks := []int{math.MinInt, math.MinInt + 1, math.MinInt + 2, math.MaxInt - 1, math.MaxInt, 1 << 32, -1 << 32}
	for pick := -30; pick <= 30; pick++ {
		picks = append(picks, pick)
	}
	for _, is := range [][]bool{{true}, {false, true}, {true, true}, {true, false, false, true, true}, {false, true, true, false, true, true, true, false}, {true, true, true, true, true, true, true}} {
		var ready []int
		for at := range is {
			if is[at] {
				ready = append(ready, at)
			}
		}
		list := probes(is...)
		l := lineOf(list)
		want := make([]int, len(is))
		for i, pick := range picks {
			at := ready[modulo(pick, len(ready))]
			takes(t, l, pick, at)
			want[at]++
			stepped(t, list, want...)
			steps(t, l, i+1)
		}
		places(t, l, ready...)
	}
}

// 14.4: where none is ready nothing is done, whatever the pick.
func TestNoneReady(t *testing.T) {
	list := probes(false, false)
	l := lineOf(list)
	for _, pick := range []int{0, 1, -1, 2, math.MinInt, math.MaxInt} {
		takes(t, l, pick, -1)
	}
	stepped(t, list, 0, 0)
	steps(t, l, 0)
}

// 14.4: a step is a step of the line also where the task's own Step does nothing.
func TestIdleStep(t *testing.T) {
	l := sched.New(byValue{3})
	takes(t, l, 0, 0)
	drains(t, l, 5, 5)
	steps(t, l, 6)
}

// 14.5: each pick is taken, in order, of those that are ready then.
func TestPlay(t *testing.T) {
	var order []int
	var list []*probe
	for i, n := range []int{2, 1, 3} {
		p := &probe{ready: true}
		p.then = func() {
			order = append(order, i)
			p.ready = p.steps < n
		}
		list = append(list, p)
	}
	l := lineOf(list)
	plays(t, l, []int{-1, 1, 1, 4, 0, -7, 0, 3}, 6)
	if want := []int{2, 1, 2, 0, 0, 2}; !slices.Equal(order, want) {
		t.Errorf("the steps were those of %v, not of %v", order, want)
	}
	steps(t, l, 6)
	plays(t, l, nil, 0)
	plays(t, l, []int{}, 0)
	steps(t, l, 6)
}

// late is a task that is ready from its tenth asking on.
type late struct {
	probe
	asked int
}

func (s *late) Ready() bool {
	s.asked++
	return s.asked >= 10
}

// 14.5: a pick is taken also behind one that took none.
func TestPlayGoesOn(t *testing.T) {
	s := &late{}
	l := sched.New(s)
	n := l.Play(make([]int, 50))
	if n == 0 || n != s.steps || n != l.Steps() {
		t.Errorf("Play: %d; the task has taken %d steps, the line %d", n, s.steps, l.Steps())
	}
}

// 14.6: the first ready one takes the steps, also where an earlier one becomes ready amid them; and no more than are asked for.
func TestDrain(t *testing.T) {
	list := probes(false, true, true)
	list[1].then = func() { list[0].ready = list[1].steps%2 == 0 }
	list[0].then = func() { list[0].ready = false }
	l := lineOf(list)
	drains(t, l, 1, 1)
	stepped(t, list, 0, 1, 0)
	drains(t, l, 2, 2)
	stepped(t, list, 1, 2, 0)
	drains(t, l, 6, 6)
	stepped(t, list, 3, 6, 0)
	list[1].ready = false
	drains(t, l, 3, 3)
	stepped(t, list, 3, 6, 3)
	steps(t, l, 12)
}

// 14.6: none, if most is below 1; all that there are, if it is as many or more.
func TestDrainMost(t *testing.T) {
	for _, x := range []struct{ most, taken int }{
		{math.MinInt, 0}, {-5, 0}, {-1, 0}, {0, 0}, {1, 1}, {4, 4}, {5, 5}, {6, 5}, {100, 5}, {math.MaxInt, 5},
	} {
		c := sched.NewChore(3)
		d := sched.NewChore(2, c)
		l := sched.New(d, nil, c)
		drains(t, l, x.most, x.taken)
		steps(t, l, x.taken)
		if c.Left()+d.Left() != 5-x.taken || c.Left() > 0 && d.Left() < 2 {
			t.Errorf("Drain(%d) leaves %d and %d", x.most, c.Left(), d.Left())
		}
		drains(t, l, 9, 5-x.taken)
		drains(t, l, 9, 0)
		steps(t, l, 5)
	}
}

// 14.7: the steps of all calls count, each line's its own, and those that tasks take otherwise don't.
func TestSteps(t *testing.T) {
	c := sched.NewChore(50)
	l, other := sched.New(c), sched.New(c, c)
	takes(t, l, 0, 0)
	plays(t, l, []int{1, 2, 3}, 3)
	drains(t, l, 4, 4)
	steps(t, l, 8)
	takes(t, other, -1, 1)
	c.Step()
	l.Ready()
	steps(t, l, 8)
	steps(t, other, 1)
	stands(t, c, true, 40)
	drains(t, other, 100, 40)
	takes(t, l, 0, -1)
	steps(t, l, 8)
	steps(t, other, 41)
}

// 14.7: a line may take more steps than one chore has.
func TestManySteps(t *testing.T) {
	l := sched.New(sched.NewChore(65537), sched.NewChore(65536), sched.NewChore(3))
	drains(t, l, 1000000, 2*65536+3)
	steps(t, l, 2*65536+3)
}

// 14.8: what is done to tasks outside the line counts at once.
func TestAskedAtTheMoment(t *testing.T) {
	c := sched.NewChore(1)
	d := sched.NewChore(2, c)
	list := probes(false)
	l := sched.New(list[0], c, d)
	places(t, l, 1)
	c.Step()
	places(t, l, 2)
	list[0].ready = true
	places(t, l, 0, 2)
	takes(t, l, 1, 2)
	list[0].ready = false
	takes(t, l, 1, 2)
	places(t, l)
	takes(t, l, 0, -1)
	list[0].ready = true
	takes(t, l, 0, 0)
	drains(t, l, 3, 3)
	list[0].ready = false
	drains(t, l, 3, 0)
	plays(t, l, []int{0, 0}, 0)
	list[0].ready = true
	plays(t, l, []int{0, 0}, 2)
}

// 14.8: a step of one may make others ready, or not ready any more, amid a Play and a Drain.
func TestStepsChangeOthers(t *testing.T) {
	turn := func(list []*probe) {
		for i, p := range list {
			p.then = func() { p.ready, list[(i+1)%len(list)].ready = false, true }
		}
	}
	list := probes(true, false, false)
	turn(list)
	l := lineOf(list)
	for i := range 7 {
		places(t, l, i%3)
		takes(t, l, 5-i, i%3)
	}
	plays(t, l, []int{4, -4, 9, 9}, 4)
	places(t, l, 2)
	stepped(t, list, 4, 4, 3)
	drains(t, l, 5, 5)
	stepped(t, list, 6, 5, 5)
	places(t, l, 1)

	list = probes(true, true, true)
	list[1].then = func() {
		for _, p := range list {
			p.ready = false
		}
	}
	l = lineOf(list)
	plays(t, l, []int{0, 1, 0, 0}, 2)
	drains(t, l, 9, 0)
	stepped(t, list, 1, 1, 0)
}

// 14.4: a task that stands at several places is ready at each, and a step there is one step of it.
func TestSeveralPlaces(t *testing.T) {
	c := sched.NewChore(4)
	d := sched.NewChore(1, c)
	l := sched.New(c, d, c, nil, d, c)
	places(t, l, 0, 2, 5)
	takes(t, l, 1, 2)
	takes(t, l, 2, 5)
	stands(t, c, true, 2)
	drains(t, l, 2, 2)
	places(t, l, 1, 4)
	takes(t, l, 1, 4)
	places(t, l)
	steps(t, l, 5)
}

// 14.4, 14.7: a task may call its own line amid its step.
func TestStepCallsLine(t *testing.T) {
	c := sched.NewChore(3)
	p := &probe{ready: true}
	l := sched.New(p, c)
	p.then = func() {
		p.ready = false
		places(t, l, 1)
		takes(t, l, 0, 1)
		p.ready = true
	}
	takes(t, l, 0, 0)
	steps(t, l, 2)
	drains(t, l, 2, 2)
	steps(t, l, 6)
	stands(t, c, false, 0)
}
