package sched_test

import (
	"math"
	"math/rand"
	"slices"
	"testing"

	"prelude/sched"
)

// modelChore is a chore of the model: the chapter's words taken by the letter.
type modelChore struct {
	left   int
	behind []*modelChore
}

func (c *modelChore) ready() bool {
	for _, b := range c.behind {
		if b != nil && b.left > 0 {
			return false
		}
	}
	return c.left > 0
}

func (c *modelChore) step() {
	if c.ready() {
		c.left--
	}
}

// modelLine is a line of the model.
type modelLine struct {
	tasks []*modelChore
	steps int
}

func (l *modelLine) ready() []int {
	var list []int
	for at, c := range l.tasks {
		if c != nil && c.ready() {
			list = append(list, at)
		}
	}
	return list
}

func (l *modelLine) take(pick int) int {
	list := l.ready()
	if len(list) == 0 {
		return -1
	}
	at := list[modulo(pick, len(list))]
	l.tasks[at].step()
	l.steps++
	return at
}

func (l *modelLine) play(picks []int) int {
	n := 0
	for _, pick := range picks {
		if l.take(pick) != -1 {
			n++
		}
	}
	return n
}

func (l *modelLine) drain(most int) int {
	n := 0
	for n < most && len(l.ready()) > 0 {
		l.take(0)
		n++
	}
	return n
}

// pair is chores and lines, and those of the model beside them; number 0 of the chores is none.
type pair struct {
	chores []*sched.Chore
	lines  []*sched.Line
	model  []*modelChore
	rows   []*modelLine
}

// agrees holds all that can be asked against the model.
func (p *pair) agrees(t *testing.T) {
	t.Helper()
	for i, c := range p.chores {
		if c != nil && (c.Left() != p.model[i].left || c.Ready() != p.model[i].ready()) {
			t.Fatalf("chore %d: Left: %d, Ready: %v, not %d, %v", i, c.Left(), c.Ready(), p.model[i].left, p.model[i].ready())
		}
	}
	for i, l := range p.lines {
		if !slices.Equal(l.Ready(), p.rows[i].ready()) || l.Steps() != p.rows[i].steps {
			t.Fatalf("line %d: Ready: %v, Steps: %d, not %v, %d", i, l.Ready(), l.Steps(), p.rows[i].ready(), p.rows[i].steps)
		}
	}
}

// makeChore makes one more chore, behind some of those that are there.
func (p *pair) makeChore(r *rand.Rand) {
	n := anyCount(r)
	var behind []*sched.Chore
	m := &modelChore{left: min(max(n, 0), 65536)}
	for range r.Intn(4) {
		i := r.Intn(len(p.chores))
		behind = append(behind, p.chores[i])
		m.behind = append(m.behind, p.model[i])
	}
	p.chores = append(p.chores, sched.NewChore(n, behind...))
	p.model = append(p.model, m)
}

// anyCount is a number, mostly a small one.
func anyCount(r *rand.Rand) int {
	switch r.Intn(20) {
	case 0:
		return math.MinInt
	case 1:
		return -r.Intn(3)
	}
	return 1 + r.Intn(5)
}

// anyPick is a pick of any size.
func anyPick(r *rand.Rand) int { return int(r.Uint64()) >> r.Intn(64) }

// makeLine makes one more line, of some of the chores that are there.
func (p *pair) makeLine(r *rand.Rand) {
	var tasks []sched.Task
	m := &modelLine{}
	for range r.Intn(12) {
		i := r.Intn(len(p.chores))
		if i == 0 {
			tasks = append(tasks, nil)
		} else {
			tasks = append(tasks, p.chores[i])
		}
		m.tasks = append(m.tasks, p.model[i])
	}
	p.lines = append(p.lines, sched.New(tasks...))
	p.rows = append(p.rows, m)
}

// turn does one and the same thing to both.
func (p *pair) turn(t *testing.T, r *rand.Rand) {
	t.Helper()
	i := r.Intn(len(p.lines))
	l, m := p.lines[i], p.rows[i]
	switch r.Intn(12) {
	case 0, 1:
		p.makeChore(r)
	case 2:
		p.makeLine(r)
	case 3: // outside the lines
		if i := r.Intn(len(p.chores)); i > 0 {
			p.chores[i].Step()
			p.model[i].step()
		}
	case 4:
		picks := make([]int, r.Intn(5))
		for i := range picks {
			picks[i] = anyPick(r)
		}
		plays(t, l, picks, m.play(picks))
	case 5:
		most := anyCount(r)
		drains(t, l, most, m.drain(most))
	default:
		pick := anyPick(r)
		takes(t, l, pick, m.take(pick))
	}
}

// 14.2 to 14.8: whatever is done in whatever order, each answer is that of the chapter's words.
func TestByTheLetter(t *testing.T) {
	for seed := range int64(200) {
		r := rand.New(rand.NewSource(seed))
		p := &pair{chores: []*sched.Chore{nil}, model: []*modelChore{nil}}
		p.makeLine(r)
		for range 200 {
			p.turn(t, r)
			p.agrees(t)
			if t.Failed() {
				t.FailNow()
			}
		}
	}
}
