package tidy_test

import (
	"math"
	"testing"

	"prelude/api"
)

// one is a program with one arg, two reads, three writes and one local.
func one(t *testing.T, code string) api.Program {
	t.Helper()
	return api.Program{Args: 1, Reads: 2, Writes: 3, Locals: 1, Code: listing(t, code)}
}

// R1: what is not reached.
func TestNotReached(t *testing.T) {
	becomes(t, one(t, "arg 0, abort, out"), []int{2}, "arg 0, abort")
	becomes(t, one(t, "jump 3, pop, add, arg 0, out"), []int{1, 2}, "arg 0, out")
	becomes(t, one(t, "arg 0, zero 4, stop, stop, arg 0, out"), []int{3}, "arg 0, zero 3, stop, arg 0, out")
	becomes(t, one(t, "del 0, arg 0, abort, del 1, del 2"), []int{3, 4}, "del 0, arg 0, abort")
	// What is not reached jumps anywhere, and lands nowhere.
	becomes(t, one(t, "jump 2, jump 4, arg 0, neg, neg, out"), []int{1, 3}, "arg 0, out")
	becomes(t, one(t, "stop, jump 3, zero 4, stop"), []int{1, 2, 3}, "")
	becomes(t, one(t, "arg 0, abort, jump 4, jump 5, pop"), []int{2, 3, 4}, "arg 0, abort")
	// What is reached by a jump alone, or by falling alone.
	stays(t, one(t, "arg 0, zero 4, arg 0, abort, del 0"))
	stays(t, one(t, "arg 0, zero 3, del 1, del 0"))
}

// R2: jumps to the next place.
func TestJumpToTheNext(t *testing.T) {
	becomes(t, one(t, "jump 1"), []int{0}, "")
	becomes(t, one(t, "del 0, jump 2, del 1"), []int{1}, "del 0, del 1")
	becomes(t, one(t, "arg 0, zero 3, jump 3, del 1"), []int{2}, "arg 0, zero 2, del 1")
	// A zero that goes to the next place is none.
	stays(t, one(t, "arg 0, zero 2, del 1"))
	stays(t, one(t, "arg 0, zero 2"))
	stays(t, one(t, "arg 0, zero 3, del 0"))
}

// R3: jumps to jumps.
func TestJumpToJump(t *testing.T) {
	becomes(t, one(t, "arg 0, zero 4, del 0, stop, jump 6, stop, del 1"), []int{1, 5}, "arg 0, zero 4, del 0, stop, del 1")
	becomes(t, one(t, "arg 0, zero 4, del 0, jump 5, jump 7, arg 0, out, del 1"), []int{1}, "arg 0, zero 5, del 0, arg 0, out, del 1")
	becomes(t, one(t, "arg 0, zero 4, del 0, jump 6, jump 8, stop, arg 0, out, del 1"), []int{1, 5}, "arg 0, zero 5, del 0, arg 0, out, del 1")
	// From jump to jump to jump, and to the end.
	becomes(t, one(t, "arg 0, zero 5, arg 0, zero 6, stop, jump 6, jump 7"), []int{1, 3, 5, 6}, "arg 0, zero 4, arg 0, zero 4")
	// A jump to a jump to its next place is both.
	becomes(t, one(t, "jump 1, jump 2, del 0"), []int{0, 1}, "del 0")
	// What goes to a zero stays, and so does a zero that goes to one.
	stays(t, one(t, "arg 0, arg 0, zero 4, jump 5, neg, zero 7, del 1"))
	stays(t, one(t, "arg 0, arg 0, zero 4, neg, zero 6, del 1"))
	// What jumps back is not there: a zero may jump over a jump.
	stays(t, one(t, "arg 0, zero 4, del 0, jump 5, del 1, del 2"))
}

// R4: a stop at the last place.
func TestStopAtTheEnd(t *testing.T) {
	becomes(t, one(t, "stop"), []int{0}, "")
	becomes(t, one(t, "del 0, stop"), []int{1}, "del 0")
	becomes(t, one(t, "stop, stop"), []int{1}, "")
	becomes(t, one(t, "del 0, stop, stop, stop"), []int{2, 3}, "del 0")
	// The end is not reached: the depth does not matter.
	becomes(t, one(t, "arg 0, stop"), []int{1}, "arg 0")
	becomes(t, one(t, "arg 0, zero 4, arg 0, abort, arg 0, arg 0, stop"), []int{6}, "arg 0, zero 4, arg 0, abort, arg 0, arg 0")
	// The end is reached with the same depth, or with another one.
	becomes(t, one(t, "arg 0, zero 4, del 0, stop"), []int{3}, "arg 0, zero 3, del 0")
	becomes(t, one(t, "arg 0, arg 0, zero 5, del 0, stop"), []int{4}, "arg 0, arg 0, zero 4, del 0")
	stays(t, one(t, "arg 0, zero 4, arg 0, stop"))
	stays(t, one(t, "arg 0, arg 0, zero 5, out, stop"))
	// A jump to the stop.
	becomes(t, one(t, "arg 0, zero 3, del 0, stop"), []int{3}, "arg 0, zero 3, del 0")
	// One that is not the last.
	stays(t, one(t, "arg 0, zero 3, stop, del 0"))
}

// R5: what is laid and taken away at once.
func TestLaidAndPopped(t *testing.T) {
	for _, in := range []string{"push 3", "push 0", "load 0", "arg 0", "get 1", "has 0"} {
		becomes(t, one(t, in+", pop"), []int{0}, "")
		becomes(t, one(t, "del 0, "+in+", pop, del 1"), []int{1}, "del 0, del 1")
		// Without the pop, or with the pop at a landing.
		stays(t, one(t, in+", out"))
		stays(t, one(t, "arg 0, arg 0, zero 5, save 0, "+in+", pop"))
		// At a landing itself.
		becomes(t, one(t, "arg 0, zero 3, del 0, "+in+", pop, del 1"), []int{3}, "arg 0, zero 3, del 0, del 1")
	}
	becomes(t, one(t, "arg 0, dup, pop, out"), []int{1}, "arg 0, out")
	stays(t, one(t, "arg 0, dup, out, out"))
	// Within one another.
	becomes(t, one(t, "arg 0, get 0, has 1, load 0, pop, pop, pop"), []int{3}, "arg 0")
	// What else lays a value may fail, or takes one.
	stays(t, one(t, "arg 0, getx, pop"))
	stays(t, one(t, "arg 0, neg, pop"))
	stays(t, one(t, "arg 0, not, pop"))
	stays(t, one(t, "arg 0, arg 0, add, pop"))
	stays(t, one(t, "arg 0, save 0, arg 0, save 0"))
}

// pushed is a program that pushes two numbers and does something with them.
func pushed(x, y int64, op int) api.Program {
	return api.Program{Code: []api.Instr{{Op: api.IPush, A: x}, {Op: api.IPush, A: y}, {Op: op}, {Op: api.IOut}}}
}

// R6: each instruction with each two of the numbers, and with some that R9 has too.
func TestTwoNumbers(t *testing.T) {
	failed := 0
	for _, op := range pairOps {
		for _, x := range numbers {
			for _, y := range numbers {
				p := pushed(x, y, op)
				v, ok := both(op, x, y)
				if !ok {
					failed++
					if !idle(op, y) {
						stays(t, p)
					}
					continue
				}
				want := []int{0}
				if idle(op, y) {
					want = []int{0, 1}
				}
				becomes(t, p, want, told(api.Program{Code: []api.Instr{{Op: api.IPush, A: v}, {Op: api.IOut}}}))
			}
		}
	}
	if failed < 4*len(numbers) {
		t.Errorf("only %d fail", failed)
	}
}

// idle tells whether R9 has an instruction behind a push of that number.
func idle(op int, n int64) bool {
	switch op {
	case api.IAdd, api.ISub, api.IOr, api.IXor, api.IShl, api.IShr:
		return n == 0
	case api.IMul, api.IDiv:
		return n == 1
	}
	return false
}

// R6: some by hand, and landings.
func TestTwoNumbersByHand(t *testing.T) {
	becomes(t, one(t, "push 7, push -2, mod, out"), []int{0}, "push 1, out")
	becomes(t, one(t, "push -9223372036854775808, push -1, div, out"), []int{0}, "push -9223372036854775808, out")
	becomes(t, one(t, "push -9223372036854775808, push -1, mod, out"), []int{0}, "push 0, out")
	becomes(t, one(t, "push 9223372036854775807, push 1, add, out"), []int{0}, "push -9223372036854775808, out")
	becomes(t, one(t, "push 1, push 63, shl, out"), []int{0}, "push -9223372036854775808, out")
	becomes(t, one(t, "push -8, push 99, shr, out"), []int{0}, "push -1, out")
	stays(t, one(t, "push 5, push 0, mod, out"))
	stays(t, one(t, "push 5, push -1, shl, out"))
	stays(t, one(t, "push 5, push -1, shr, out"))
	stays(t, one(t, "push 5, push 6, out, out"))
	stays(t, one(t, "push 5, arg 0, add, out"))
	stays(t, one(t, "arg 0, push 5, add, out"))
	// At a landing there stands the second one, the third one, or the first.
	stays(t, one(t, "push 4, arg 0, zero 4, neg, push 5, add, out"))
	stays(t, one(t, "push 4, arg 0, zero 5, save 0, push 5, push 6, add, out, push 7, out"))
	stays(t, one(t, "arg 0, arg 0, arg 0, zero 8, pop, pop, push 5, push 6, add, out"))
	becomes(t, one(t, "arg 0, zero 3, del 0, push 5, push 6, add, out"), []int{3}, "arg 0, zero 3, del 0, push 11, out")
	// Too short.
	stays(t, one(t, "push 4, push 5"))
}

// R7: a number that is turned.
func TestTurnedNumber(t *testing.T) {
	for _, n := range numbers {
		push := api.Instr{Op: api.IPush, A: n}
		out := api.Instr{Op: api.IOut}
		for _, c := range []struct {
			op   int
			want int64
		}{{api.INeg, -n}, {api.INot, one01(n == 0)}} {
			p := api.Program{Code: []api.Instr{push, {Op: c.op}, out}}
			becomes(t, p, []int{0}, told(api.Program{Code: []api.Instr{{Op: api.IPush, A: c.want}, out}}))
		}
	}
	stays(t, one(t, "push 3, arg 0, zero 5, pop, push 4, neg, out"))
	stays(t, one(t, "arg 0, push 3, arg 0, zero 6, pop, push 4, not, out"))
	becomes(t, one(t, "push 4, not, not, neg, neg, out"), []int{0, 3}, "push 1, out")
}

// R8: a number that is asked.
func TestAskedNumber(t *testing.T) {
	for _, n := range numbers {
		p := one(t, "push 1, zero 4, del 0, del 1, del 2")
		p.Code[0].A = n
		if n == 0 {
			becomes(t, p, []int{0}, "del 2")
		} else {
			becomes(t, p, []int{0}, "del 0, del 1, del 2")
		}
	}
	// To the next place, and to the end.
	becomes(t, one(t, "push 0, zero 2"), []int{0}, "")
	becomes(t, one(t, "push 9, zero 2"), []int{0}, "")
	becomes(t, one(t, "push 0, zero 3, del 0"), []int{0}, "")
	// What is left is a jump.
	becomes(t, one(t, "arg 0, zero 6, del 0, push 0, zero 7, stop, del 1, del 2"), []int{3}, "arg 0, zero 4, del 0, jump 5, del 1, del 2")
	// At a landing.
	stays(t, one(t, "arg 0, arg 0, zero 5, save 0, push 0, zero 7, del 0"))
	becomes(t, one(t, "arg 0, zero 3, del 1, push 0, zero 6, del 0"), []int{3}, "arg 0, zero 3, del 1")
	// What is asked is no number.
	stays(t, one(t, "push 0, arg 0, zero 3, out"))
}

// R9: a number with which nothing becomes other.
func TestIdleNumber(t *testing.T) {
	for op := range api.NumOps {
		if kindOf(op) != (kind{2, 1}) {
			continue
		}
		for _, n := range numbers {
			p := one(t, "arg 0, push 0, add, out")
			p.Code[1].A, p.Code[2].Op = n, op
			if idle(op, n) {
				becomes(t, p, []int{1}, "arg 0, out")
			} else {
				stays(t, p)
			}
		}
	}
	// The number lies below.
	stays(t, one(t, "push 0, arg 0, add, out"))
	stays(t, one(t, "push 1, arg 0, mul, out"))
	// At a landing.
	stays(t, one(t, "arg 0, push 2, arg 0, zero 6, pop, push 0, add, out"))
	becomes(t, one(t, "arg 0, arg 0, zero 4, neg, push 1, mul, out"), []int{4}, "arg 0, arg 0, zero 4, neg, out")
}

// R10: two negs.
func TestTwoNegs(t *testing.T) {
	becomes(t, one(t, "arg 0, neg, neg, out"), []int{1}, "arg 0, out")
	becomes(t, one(t, "arg 0, neg, neg, neg, out"), []int{1, 2}, "arg 0, neg, out")
	becomes(t, one(t, "arg 0, neg, neg, neg, neg, out"), []int{1, 2, 3}, "arg 0, out")
	stays(t, one(t, "arg 0, not, not, out"))
	stays(t, one(t, "arg 0, neg, not, neg, out"))
	stays(t, one(t, "arg 0, neg, arg 0, neg, out, out"))
	// The first of them may be at a landing, the second one not.
	becomes(t, one(t, "arg 0, arg 0, zero 4, not, neg, neg, out"), []int{4}, "arg 0, arg 0, zero 4, not, out")
	becomes(t, one(t, "arg 0, arg 0, zero 5, neg, neg, neg, neg, out"), []int{3, 5}, "arg 0, arg 0, zero 3, out")
	stays(t, one(t, "arg 0, arg 0, zero 4, neg, neg, out"))
}

// R11: a read by a number that is known.
func TestReadByNumber(t *testing.T) {
	becomes(t, one(t, "push 0, getx, out"), []int{0}, "get 0, out")
	becomes(t, one(t, "push 1, getx, out"), []int{0}, "get 1, out")
	for _, n := range []int64{-1, 2, 3, math.MinInt64, math.MaxInt64, 1 << 32} {
		p := one(t, "push 0, getx, out")
		p.Code[0].A = n
		stays(t, p)
	}
	stays(t, api.Program{Code: listing(t, "push 0, getx, out")})
	becomes(t, api.Program{Reads: 16, Code: listing(t, "push 15, getx, out")}, []int{0}, "get 15, out")
	stays(t, api.Program{Reads: 16, Code: listing(t, "push 16, getx, out")})
	// The writes are as many, and don't matter.
	stays(t, api.Program{Reads: 1, Writes: 2, Code: listing(t, "push 1, getx, out")})
	stays(t, one(t, "push 1, arg 0, zero 5, pop, arg 0, getx, out"))
	stays(t, one(t, "arg 0, arg 0, zero 5, pop, push 1, getx, out"))
	becomes(t, one(t, "push 0, push 1, add, getx, out"), []int{0}, "get 1, out")
}

// R12: a write by a number that is known.
func TestPutByNumber(t *testing.T) {
	becomes(t, one(t, "push 0, push 5, putx"), []int{0}, "push 5, put 0")
	becomes(t, one(t, "push 2, push -1, putx"), []int{0}, "push -1, put 2")
	for _, n := range []int64{-1, 3, 4, math.MinInt64, math.MaxInt64, 1 << 32} {
		p := one(t, "push 0, push 5, putx")
		p.Code[0].A = n
		stays(t, p)
		p = one(t, "push 2, push 5, putx")
		p.Code[1].A = n
		becomes(t, p, []int{0}, told(api.Program{Code: []api.Instr{{Op: api.IPush, A: n}, {Op: api.IPut, A: 2}}}))
	}
	stays(t, api.Program{Reads: 2, Code: listing(t, "push 0, push 5, putx")})
	becomes(t, api.Program{Writes: 16, Code: listing(t, "push 15, push 15, putx")}, []int{0}, "push 15, put 15")
	stays(t, api.Program{Writes: 16, Code: listing(t, "push 16, push 15, putx")})
	stays(t, one(t, "push 0, arg 0, putx"))
	stays(t, one(t, "arg 0, push 0, putx"))
	stays(t, one(t, "push 0, push 5, del 0, putx"))
	// At a landing there stands the putx, the second number, or the first.
	stays(t, one(t, "push 0, push 4, arg 0, zero 6, pop, push 5, putx"))
	stays(t, one(t, "push 1, arg 0, zero 5, pop, push 0, push 5, putx"))
	becomes(t, one(t, "arg 0, zero 3, del 1, push 0, push 5, putx"), []int{3}, "arg 0, zero 3, del 1, push 5, put 0")
}

// 20.2: what becomes rough when something else is taken out.
func TestOneAfterTheOther(t *testing.T) {
	becomes(t, one(t, "arg 0, neg, push 0, add, neg, out"), []int{2}, "arg 0, out")
	becomes(t, one(t, "push 1, push 2, jump 3, add, out"), []int{2}, "push 3, out")
	becomes(t, one(t, "arg 0, push 1, zero 4, neg, neg, out"), []int{1}, "arg 0, out")
	becomes(t, one(t, "push 2, push 3, sub, push 1, add, zero 8, del 0, stop, del 1"), []int{0}, "del 1")
	becomes(t, one(t, "arg 0, zero 5, push 0, zero 6, stop, del 0, stop"), []int{2, 6}, "arg 0, zero 3, jump 4, del 0")
	becomes(t, one(t, "arg 0, push 2, push 1, zero 5, neg, neg, out, out"), []int{2}, "arg 0, push 2, out, out")
	// The zero's way is gone, and with it what was reached by it alone.
	becomes(t, one(t, "push 1, zero 4, del 0, stop, del 1, del 2"), []int{0}, "del 0")
	// A stop becomes the last one, and what jumped to the end has the same depth, or not.
	becomes(t, one(t, "arg 0, zero 5, del 0, stop, pop"), []int{4}, "arg 0, zero 3, del 0")
	becomes(t, one(t, "arg 0, zero 5, arg 0, stop, pop"), []int{4}, "arg 0, zero 4, arg 0, stop")
}
