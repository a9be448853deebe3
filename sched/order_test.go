package sched_test

import (
	"fmt"
	"math/rand"
	"slices"
	"testing"

	"prelude/sched"
)

// duty is what a chore is made of: its steps, and the numbers of those behind which it is made.
type duty struct {
	steps  int
	behind []int
}

// game is a line of chores, and what is known of them.
type game struct {
	duties []duty
	list   []*sched.Chore
	line   *sched.Line
}

// gameOf is a game that is not begun; the chores stand in the line by an order (nil: as they were made).
func gameOf(duties []duty, order []int) *game {
	g := &game{duties: duties}
	for _, d := range duties {
		var behind []*sched.Chore
		for _, i := range d.behind {
			behind = append(behind, g.list[i])
		}
		g.list = append(g.list, sched.NewChore(d.steps, behind...))
	}
	tasks := slices.Clone(g.list)
	for at, i := range order {
		tasks[at] = g.list[i]
	}
	g.line = lineOf(tasks)
	return g
}

// left is how many steps are left in each.
func (g *game) left() []int {
	var list []int
	for _, c := range g.list {
		list = append(list, c.Left())
	}
	return list
}

// total is the sum of a list.
func total(list []int) int {
	n := 0
	for _, x := range list {
		n += x
	}
	return n
}

// step takes a step by a pick, and looks at what 14.9 and 14.10 say of it; it tells whether one was taken.
func (g *game) step(t *testing.T, pick int) bool {
	t.Helper()
	was := g.left()
	at := g.line.Take(pick)
	is := g.left()
	if (at >= 0) != (total(was) > 0) {
		t.Fatalf("14.9: Take: %d, and %v were left", at, was)
	}
	if at < 0 {
		return false
	}
	if total(is) != total(was)-1 {
		t.Fatalf("a step has made %v of %v", is, was)
	}
	for i, d := range g.duties {
		for _, b := range d.behind {
			if is[i] != was[i] && was[b] > 0 {
				t.Fatalf("14.10: a step of %d, and of %d, behind which it was made, %d are left", i, b, was[b])
			}
		}
	}
	return true
}

// rests looks that it is at rest, behind so many steps.
func (g *game) rests(t *testing.T, want int) {
	t.Helper()
	places(t, g.line)
	takes(t, g.line, 0, -1)
	drains(t, g.line, 10, 0)
	steps(t, g.line, want)
	if n := total(g.left()); n != 0 {
		t.Errorf("14.9: at rest %d are left", n)
	}
}

// sum is how many steps there are in all.
func sum(duties []duty) int {
	n := 0
	for _, d := range duties {
		n += d.steps
	}
	return n
}

// walk goes on from some picks in every way, and gathers the states that are come to.
func walk(t *testing.T, duties []duty, picks []int, seen map[string]int) {
	t.Helper()
	g := gameOf(duties, nil)
	for _, pick := range picks {
		g.step(t, pick)
	}
	key := fmt.Sprint(g.left())
	if seen[key]++; seen[key] > 1 {
		return
	}
	ready := g.line.Ready()
	if len(ready) == 0 {
		g.rests(t, sum(duties))
	}
	for pick := range ready {
		walk(t, duties, append(slices.Clone(picks), pick), seen)
	}
}

// 14.9, 14.10: every order of steps of small lines, one by one.
func TestAllOrders(t *testing.T) {
	for _, x := range []struct {
		duties []duty
		states int
	}{
		{[]duty{{3, nil}, {2, nil}}, 12},
		{[]duty{{3, nil}, {2, []int{0}}}, 6},
		{[]duty{{2, nil}, {1, []int{0}}, {1, []int{0}}, {2, []int{1, 2}}}, 8},
		{[]duty{{1, nil}, {0, []int{0}}, {1, []int{1}}}, 4},
		{[]duty{{2, nil}, {2, nil}, {1, []int{0, 1, 0}}, {3, []int{1}}, {1, nil}}, 44},
	} {
		seen := map[string]int{}
		walk(t, x.duties, nil, seen)
		if len(seen) != x.states {
			t.Errorf("%v: %d states, not %d", x.duties, len(seen), x.states)
		}
	}
}

// anyDuties is some duties, each behind some that were made ahead of it.
func anyDuties(r *rand.Rand, n int) []duty {
	list := make([]duty, n)
	for i := range list {
		list[i].steps = r.Intn(6)
		for range r.Intn(4) {
			if i > 0 {
				list[i].behind = append(list[i].behind, r.Intn(i))
			}
		}
	}
	return list
}

// pickers is ways to say whose step is next.
func pickers(r *rand.Rand) []func(n int) int {
	return []func(n int) int{
		func(int) int { return 0 },
		func(int) int { return -1 },
		func(n int) int { return n },
		func(n int) int { return -n * n },
		func(int) int { return int(r.Uint64()) },
	}
}

// 14.9, 14.10: whatever the picks, and wherever the chores stand: as long as a step is left one is ready, none steps ahead of one behind which it was made, and the line rests behind as many steps as there were.
func TestEveryOrder(t *testing.T) {
	r := rand.New(rand.NewSource(149))
	for range 300 {
		duties := anyDuties(r, 1+r.Intn(30))
		order := r.Perm(len(duties))
		for _, pick := range pickers(r) {
			g := gameOf(duties, order)
			n := 0
			for g.step(t, pick(n)) {
				n++
			}
			if n != sum(duties) {
				t.Fatalf("14.9: at rest behind %d steps, not %d", n, sum(duties))
			}
			g.rests(t, n)
		}
	}
}

// 14.9: Play and Drain come there as well, from everywhere.
func TestDrainComesToRest(t *testing.T) {
	r := rand.New(rand.NewSource(1491))
	for range 300 {
		duties := anyDuties(r, 1+r.Intn(30))
		g := gameOf(duties, r.Perm(len(duties)))
		all := sum(duties)
		picks := make([]int, r.Intn(all+1))
		for i := range picks {
			picks[i] = int(r.Uint64())
		}
		plays(t, g.line, picks, len(picks))
		left := all - len(picks)
		some := r.Intn(left + 1)
		drains(t, g.line, some, some)
		drains(t, g.line, left+r.Intn(2), left-some)
		g.rests(t, all)
	}
}

// 14.9: chores of a line may wait for ones outside it that have ended.
func TestEndedOutside(t *testing.T) {
	ended := sched.NewChore(1)
	ended.Step()
	c := sched.NewChore(2, ended, sched.NewChore(0), nil)
	l := sched.New(sched.NewChore(1, c, ended), c)
	drains(t, l, 10, 3)
	places(t, l)
}

// 14.8, 14.9: who waits for a chore outside the line that has not ended waits till somebody else ends it.
func TestNotEndedOutside(t *testing.T) {
	outside := sched.NewChore(2)
	l := sched.New(sched.NewChore(1, outside), sched.NewChore(1))
	drains(t, l, 10, 1)
	places(t, l)
	outside.Step()
	drains(t, l, 10, 0)
	outside.Step()
	places(t, l, 0)
	drains(t, l, 10, 1)
	steps(t, l, 2)
}

// 14.9: a row of chores that stands in the line the wrong way round.
func TestLongRow(t *testing.T) {
	var duties []duty
	var order []int
	for i := range 400 {
		d := duty{steps: 2}
		if i > 0 {
			d.behind = []int{i - 1}
		}
		duties = append(duties, d)
		order = append(order, 399-i)
	}
	g := gameOf(duties, order)
	for i := range 400 {
		places(t, g.line, 399-i)
		drains(t, g.line, 2, 2)
	}
	g.rests(t, 800)
}
