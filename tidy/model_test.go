package tidy_test

import (
	"math"
	"slices"

	"prelude/api"
)

// This file takes the chapter's words by the letter: what is rough in a program, asked place by place and rule by rule.

// kind is how many values an instruction takes and leaves, as chapter 3's table has it.
type kind struct{ takes, leaves int }

func kindOf(op int) kind {
	switch op {
	case api.IStop, api.IJump, api.IDel:
		return kind{0, 0}
	case api.IPush, api.ILoad, api.IArg, api.IGet, api.IHas:
		return kind{0, 1}
	case api.IPop, api.ISave, api.IZero, api.IPut, api.IOut, api.IAbort:
		return kind{1, 0}
	case api.IDup:
		return kind{1, 2}
	case api.IGetX, api.INeg, api.INot:
		return kind{1, 1}
	case api.IPutX:
		return kind{2, 0}
	}
	return kind{2, 1}
}

// letter is a sound program, and what is known of it: the depths of the places that are reached, and its landings.
type letter struct {
	api.Program
	depth map[int]int
	lands map[int]bool
}

func newLetter(p api.Program) *letter {
	l := &letter{p, map[int]int{}, map[int]bool{}}
	l.walk(0, 0)
	return l
}

// walk goes all ways from a place on, but those that were gone.
func (l *letter) walk(at, depth int) {
	if _, was := l.depth[at]; was {
		return
	}
	l.depth[at] = depth
	if at == len(l.Code) {
		return
	}
	in := l.Code[at]
	depth += kindOf(in.Op).leaves - kindOf(in.Op).takes
	if in.Op == api.IJump || in.Op == api.IZero {
		l.lands[int(in.A)] = true
		l.walk(int(in.A), depth)
	}
	if in.Op != api.IJump && in.Op != api.IStop && in.Op != api.IAbort {
		l.walk(at+1, depth)
	}
}

func (l *letter) reached(at int) bool {
	_, is := l.depth[at]
	return is
}

// op is the instruction at a place, -1 where none is.
func (l *letter) op(at int) int {
	if at >= len(l.Code) {
		return -1
	}
	return l.Code[at].Op
}

// isOne tells whether the instruction at a place is one of some.
func (l *letter) isOne(at int, ops ...int) bool { return slices.Contains(ops, l.op(at)) }

// pairOps is the instructions that take two values and leave one.
var pairOps = []int{
	api.IAdd, api.ISub, api.IMul, api.IDiv, api.IMod, api.IAnd, api.IOr, api.IXor, api.IShl, api.IShr,
	api.IEq, api.INe, api.ILt, api.ILe, api.IGt, api.IGe, api.IMin, api.IMax,
}

// both is what an instruction with two values leaves, and whether it doesn't fail, by chapter 5's table.
func both(op int, x, y int64) (int64, bool) {
	switch op {
	case api.IDiv, api.IMod:
		if y == 0 {
			return 0, false
		}
		if op == api.IDiv {
			return x / y, true
		}
		return x % y, true
	case api.IShl, api.IShr:
		if y < 0 {
			return 0, false
		}
		if op == api.IShl {
			return x << y, true
		}
		return x >> y, true
	}
	return map[int]int64{
		api.IAdd: x + y, api.ISub: x - y, api.IMul: x * y, api.IAnd: x & y, api.IOr: x | y, api.IXor: x ^ y,
		api.IEq: one01(x == y), api.INe: one01(x != y), api.ILt: one01(x < y), api.ILe: one01(x <= y), api.IGt: one01(x > y), api.IGe: one01(x >= y),
		api.IMin: min(x, y), api.IMax: max(x, y),
	}[op], true
}

func one01(holds bool) int64 {
	if holds {
		return 1
	}
	return 0
}

// rules is the numbers of the rules by which a rough spot begins at a place.
func (l *letter) rules(at int) []int {
	if !l.reached(at) {
		return []int{1}
	}
	var out []int
	for rule, holds := range map[int]bool{
		2: l.op(at) == api.IJump && l.Code[at].A == int64(at+1),
		3: l.isOne(at, api.IJump, api.IZero) && l.op(int(l.Code[at].A)) == api.IJump,
		4: l.op(at) == api.IStop && at == len(l.Code)-1 && (!l.reached(at+1) || l.depth[at+1] == l.depth[at]),
	} {
		if holds {
			out = append(out, rule)
		}
	}
	if at+1 < len(l.Code) && !l.lands[at+1] {
		out = append(out, l.rulesOfTwo(at)...)
		if at+2 < len(l.Code) && !l.lands[at+2] {
			out = append(out, l.rulesOfThree(at)...)
		}
	}
	slices.Sort(out)
	return out
}

func (l *letter) rulesOfTwo(at int) []int {
	var out []int
	push, n := l.op(at) == api.IPush, l.Code[at].A
	for rule, holds := range map[int]bool{
		5:  l.isOne(at, api.IPush, api.IDup, api.ILoad, api.IArg, api.IGet, api.IHas) && l.op(at+1) == api.IPop,
		7:  push && l.isOne(at+1, api.INeg, api.INot),
		8:  push && l.op(at+1) == api.IZero,
		9:  push && (n == 0 && l.isOne(at+1, api.IAdd, api.ISub, api.IOr, api.IXor, api.IShl, api.IShr) || n == 1 && l.isOne(at+1, api.IMul, api.IDiv)),
		10: l.op(at) == api.INeg && l.op(at+1) == api.INeg,
		11: push && l.op(at+1) == api.IGetX && n >= 0 && n <= int64(l.Reads)-1,
	} {
		if holds {
			out = append(out, rule)
		}
	}
	return out
}

func (l *letter) rulesOfThree(at int) []int {
	if l.op(at) != api.IPush || l.op(at+1) != api.IPush {
		return nil
	}
	x, y := l.Code[at].A, l.Code[at+1].A
	if slices.Contains(pairOps, l.op(at+2)) {
		if _, ok := both(l.op(at+2), x, y); ok {
			return []int{6}
		}
	}
	if l.op(at+2) == api.IPutX && x >= 0 && x <= int64(l.Writes)-1 {
		return []int{12}
	}
	return nil
}

// roughPlaces is where rough spots begin.
func roughPlaces(p api.Program) []int {
	l := newLetter(p)
	var out []int
	for at := range p.Code {
		if len(l.rules(at)) > 0 {
			out = append(out, at)
		}
	}
	return out
}

// longest is how many instructions the longest way has.
func longest(p api.Program) int {
	most := make([]int, len(p.Code)+1)
	for at := len(p.Code) - 1; at >= 0; at-- {
		in := p.Code[at]
		most[at] = 1
		if in.Op == api.IJump || in.Op == api.IZero {
			most[at] = max(most[at], 1+most[in.A])
		}
		if in.Op != api.IJump && in.Op != api.IStop && in.Op != api.IAbort {
			most[at] = max(most[at], 1+most[at+1])
		}
	}
	return most[0]
}

// numbers is what args, cells and pushes are tried with.
var numbers = []int64{0, 1, 2, -1, 3, 63, 64, 65, -2, 15, 16, 17, math.MaxInt64, math.MinInt64, math.MinInt64 + 1, 1 << 32, 7}
