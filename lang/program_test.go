package lang_test

import (
	"math"
	"math/rand"
	"slices"
	"testing"

	"prelude/api"
	"prelude/lang"
)

// code is instructions, of their Ops and As by turns.
func code(l ...int64) []api.Instr {
	var c []api.Instr
	for i := 0; i < len(l); i += 2 {
		c = append(c, api.Instr{Op: int(l[i]), A: l[i+1]})
	}
	return c
}

// times is one instruction several times.
func times(n int, op int) []api.Instr { return slices.Repeat([]api.Instr{{Op: op}}, n) }

// roomy is a program with as many args, reads, writes and locals as may be.
func roomy(code []api.Instr) api.Program {
	return api.Program{Args: api.MaxArgs, Reads: api.MaxReads, Writes: api.MaxWrites, Locals: api.MaxLocals, Code: code}
}

// marked is instructions with spare room behind their end, and a function that tells whether both are still as they were.
func marked(c []api.Instr) ([]api.Instr, func() bool) {
	const room = 8
	whole := slices.Concat(c, slices.Repeat([]api.Instr{{Op: -77, A: 77}}, room))
	before := slices.Clone(whole)
	return whole[:len(c)], func() bool { return slices.Equal(whole, before) }
}

// wants holds what Verify, Depths and Longest answer of a program against what they should.
func wants(t *testing.T, p api.Program, e api.Errno, depths []int, longest int) {
	t.Helper()
	var kept func() bool
	p.Code, kept = marked(p.Code)
	d, de := lang.Depths(p)
	n, ne := lang.Longest(p)
	if ve := lang.Verify(p); ve != e || de != e || ne != e {
		t.Errorf("%v: Verify %d, Depths' %d, Longest's %d, want %d", p, ve, de, ne, e)
	}
	if !slices.Equal(d, depths) || n != longest {
		t.Errorf("%v: depths %v, longest %d, want %v, %d", p, d, n, depths, longest)
	}
	if !kept() {
		t.Errorf("%v: the program was changed", p)
	}
}

// 3.1 to 3.3: the chapter's examples.
func TestProgramExamples(t *testing.T) {
	argPut := code(api.IArg, 0, api.IPut, 0)
	wants(t, api.Program{Args: 1, Writes: 1, Code: argPut}, api.OK, []int{0, 1, 0}, 2)
	wants(t, api.Program{Writes: 1, Code: argPut}, api.ErrArg, nil, 0)
	wants(t, api.Program{Args: 1, Code: argPut}, api.ErrArg, nil, 0)
	for _, c := range []struct {
		code    []api.Instr
		e       api.Errno
		depths  []int
		longest int
	}{
		{code(api.IPush, 1, api.IZero, 3, api.IStop, 0), api.OK, []int{0, 1, 0, 0}, 3},
		{code(api.IZero, 2, api.IPush, 1), api.ErrStack, nil, 0},
		{code(api.IJump, 0), api.ErrJump, nil, 0},
		{code(api.IJump, 1), api.OK, []int{0, 0}, 1},
		{code(api.IJump, 2), api.ErrJump, nil, 0},
		{code(api.IPush, 5, api.IZero, 3, api.IPush, 1), api.ErrStack, nil, 0},
		{code(api.IPush, 1, api.IStop, 0), api.OK, []int{0, 1, -1}, 2},
		{times(33, api.IPush), api.ErrStack, nil, 0},
		{code(api.IStop, 0, api.IPop, 0), api.OK, []int{0, -1, -1}, 1},
		{code(37, 0), api.ErrOp, nil, 0},
		{code(api.IStop, 1), api.ErrArg, nil, 0},
		{nil, api.OK, []int{0}, 0},
		{[]api.Instr{}, api.OK, []int{0}, 0},
	} {
		wants(t, api.Program{Code: c.code}, c.e, c.depths, c.longest)
	}
	wants(t, api.Program{Args: 17}, api.ErrProgram, nil, 0)
	full := make([]int, 33)
	for i := range full {
		full[i] = i
	}
	wants(t, api.Program{Code: times(32, api.IPush)}, api.OK, full, 32)
}

// 3.1, 1.: the edges of each number, ahead of all that is wrong with an instruction.
func TestVerifyLimits(t *testing.T) {
	for _, c := range []struct {
		p    func(n int) api.Program
		most int
	}{
		{func(n int) api.Program { return api.Program{Args: n} }, 16},
		{func(n int) api.Program { return api.Program{Reads: n} }, 16},
		{func(n int) api.Program { return api.Program{Writes: n} }, 16},
		{func(n int) api.Program { return api.Program{Locals: n} }, 16},
	} {
		for _, n := range []int{0, 1, c.most - 1, c.most} {
			wants(t, c.p(n), api.OK, []int{0}, 0)
		}
		for _, n := range []int{c.most + 1, c.most + 2, 256, 1 << 32, 1<<32 + 1, math.MaxInt, -1, -2, -c.most, math.MinInt} {
			p := c.p(n)
			wants(t, p, api.ErrProgram, nil, 0)
			p.Code = code(37, 0, api.IJump, 0, api.IStop, 1, api.IPop, 0)
			wants(t, p, api.ErrProgram, nil, 0)
		}
	}
	wants(t, roomy(nil), api.OK, []int{0}, 0)
	wants(t, api.Program{Code: times(256, api.IDel)}, api.ErrArg, nil, 0)
	wants(t, api.Program{Writes: 1, Code: times(256, api.IDel)}, api.OK, make([]int, 257), 256)
	wants(t, api.Program{Writes: 1, Code: times(257, api.IDel)}, api.ErrProgram, nil, 0)
	wants(t, api.Program{Code: times(257, 37)}, api.ErrProgram, nil, 0)
	wants(t, api.Program{Code: times(1000, api.IPop)}, api.ErrProgram, nil, 0)
}

// 3.1, 2.: numbers that are no instruction's, wherever they stand.
func TestVerifyOps(t *testing.T) {
	for _, op := range noOps {
		for _, a := range []int64{0, 1, -1, math.MinInt64, math.MaxInt64} {
			bad := api.Instr{Op: op, A: a}
			wants(t, roomy([]api.Instr{bad}), api.ErrOp, nil, 0)
			wants(t, roomy([]api.Instr{{Op: api.IStop}, bad}), api.ErrOp, nil, 0)
			wants(t, roomy([]api.Instr{{Op: api.IPop}, bad}), api.ErrOp, nil, 0)
		}
	}
}

// 3.1, 2.: the edges of each instruction's A, where it is not reached.
func TestVerifyArgs(t *testing.T) {
	const place, size = 2, 5
	for _, c := range table {
		p := api.Program{Args: 3, Reads: 5, Writes: 7, Locals: 9, Code: times(size, api.IStop)}
		from, to, e := int64(0), int64(0), api.ErrArg
		switch c.a {
		case anyNumber:
			from, to = math.MinInt64, math.MaxInt64
		case aLocal:
			to = 8
		case anArg:
			to = 2
		case aRead:
			to = 4
		case aWrite:
			to = 6
		case aPlace:
			from, to, e = place+1, size, api.ErrJump
		}
		for _, a := range []int64{math.MinInt64, math.MinInt64 + 1, -1 << 32, -2, -1, 0, 1, 2, 3, 4, 5, 6, 7, 8, 9, 10, 15, 16, 17, 255, 256, 1 << 31, 1 << 32, 1<<32 + 1, 1<<32 + 3, 1<<63 - 2, math.MaxInt64} {
			p.Code[place] = api.Instr{Op: c.op, A: a}
			if from <= a && a <= to {
				wants(t, p, api.OK, []int{0, -1, -1, -1, -1, -1}, 1)
			} else {
				wants(t, p, e, nil, 0)
			}
		}
	}
}

// 3.1, 2.: of something that isn't there nothing can be named, and where there are most, the last one can.
func TestVerifyNames(t *testing.T) {
	for _, c := range table {
		if c.a != aLocal && c.a != anArg && c.a != aRead && c.a != aWrite {
			continue
		}
		at := func(a int64) []api.Instr { return code(api.IStop, 0, int64(c.op), a) }
		wants(t, api.Program{Code: at(0)}, api.ErrArg, nil, 0)
		wants(t, roomy(at(15)), api.OK, []int{0, -1, -1}, 1)
		wants(t, roomy(at(16)), api.ErrArg, nil, 0)
	}
}

// 3.1, 2.: the first instruction with which something is wrong, and all of that ahead of the stack.
func TestVerifyOrder(t *testing.T) {
	op, jump, arg, stack := api.Instr{Op: 37, A: 1}, api.Instr{Op: api.IJump}, api.Instr{Op: api.IStop, A: 1}, api.Instr{Op: api.IPop}
	for _, c := range []struct {
		code []api.Instr
		e    api.Errno
	}{
		{[]api.Instr{op, jump, arg, stack}, api.ErrOp},
		{[]api.Instr{jump, op, arg, stack}, api.ErrJump},
		{[]api.Instr{arg, op, jump, stack}, api.ErrArg},
		{[]api.Instr{arg, jump, op, stack}, api.ErrArg},
		{[]api.Instr{stack, op, jump, arg}, api.ErrOp},
		{[]api.Instr{stack, jump, op, arg}, api.ErrJump},
		{[]api.Instr{stack, arg, op, jump}, api.ErrArg},
		{[]api.Instr{stack, stack}, api.ErrStack},
		{[]api.Instr{{Op: api.IStop}, stack, arg}, api.ErrArg},
		{[]api.Instr{{Op: api.IStop}, stack, {Op: api.IZero, A: 2}}, api.ErrJump},
		{[]api.Instr{{Op: api.IJump, A: 2}, {Op: api.IJump, A: 1}}, api.ErrJump},
		{[]api.Instr{{Op: api.IZero, A: 0}}, api.ErrJump},
		{[]api.Instr{{Op: api.IZero, A: -1}}, api.ErrJump},
		{[]api.Instr{{Op: api.IZero, A: 2}}, api.ErrJump},
		{[]api.Instr{{Op: api.IZero, A: 1}}, api.ErrStack},
	} {
		wants(t, api.Program{Code: c.code}, c.e, nil, 0)
	}
}

// 3.1, 3. and 3.2: each instruction at each height of the stack.
func TestVerifyHeights(t *testing.T) {
	for _, c := range table {
		for height := range api.MaxStack + 1 {
			in := api.Instr{Op: c.op}
			if c.a == aPlace {
				in.A = int64(height) + 1
			}
			p := roomy(append(times(height, api.IPush), in))
			depth := height - c.takes + c.leaves
			if height < c.takes || depth > api.MaxStack {
				wants(t, p, api.ErrStack, nil, 0)
				continue
			}
			var depths []int
			for i := range height + 1 {
				depths = append(depths, i)
			}
			if c.op == api.IStop || c.op == api.IAbort {
				depth = -1
			}
			wants(t, p, api.OK, append(depths, depth), height+1)
		}
	}
}

// 3.1, 3.: ways that meet, with depths alike and unlike, at the end and ahead of it.
func TestVerifyMeetings(t *testing.T) {
	for _, c := range []struct {
		code    []api.Instr
		e       api.Errno
		depths  []int
		longest int
	}{
		// Both ways of a zero to one place.
		{code(api.IPush, 1, api.IZero, 2), api.OK, []int{0, 1, 0}, 2},
		// Ahead of the end, the far way first and the near way first to be unlike.
		{code(api.IPush, 1, api.IZero, 3, api.IPush, 1, api.IStop, 0), api.ErrStack, nil, 0},
		{code(api.IPush, 1, api.IPush, 1, api.IZero, 4, api.IPop, 0, api.IStop, 0), api.ErrStack, nil, 0},
		{code(api.IPush, 1, api.IZero, 4, api.IPush, 1, api.IJump, 6, api.IPush, 1, api.IPush, 1, api.IStop, 0), api.ErrStack, nil, 0},
		{code(api.IPush, 1, api.IZero, 4, api.IPush, 1, api.IJump, 6, api.IPush, 1, api.IJump, 6, api.IStop, 0), api.OK, []int{0, 1, 0, 1, 0, 1, 1, -1}, 5},
		// At the end.
		{code(api.IPush, 1, api.IZero, 4, api.IPush, 1, api.IJump, 5, api.IPush, 1), api.OK, []int{0, 1, 0, 1, 0, 1}, 4},
		{code(api.IPush, 1, api.IZero, 4, api.IPush, 1, api.IJump, 5, api.IJump, 5), api.ErrStack, nil, 0},
		// A program that stops does not come to the end: there the depths may be unlike.
		{code(api.IPush, 1, api.IZero, 4, api.IPush, 1, api.IStop, 0), api.OK, []int{0, 1, 0, 1, 0}, 4},
		{code(api.IPush, 1, api.IZero, 4, api.IPush, 1, api.IAbort, 0), api.OK, []int{0, 1, 0, 1, 0}, 4},
		{code(api.IPush, 1, api.IZero, 3, api.IAbort, 0), api.ErrStack, nil, 0},
		// Of what is not reached the stack does not matter, nor where it goes to.
		{code(api.IStop, 0, api.IAdd, 0, api.IPush, 1), api.OK, []int{0, -1, -1, -1}, 1},
		{code(api.IJump, 3, api.IPush, 1, api.IJump, 3, api.IStop, 0), api.OK, []int{0, -1, -1, 0, -1}, 2},
		{code(api.IJump, 2, api.IPop, 0, api.IPush, 1), api.OK, []int{0, -1, 0, 1}, 2},
		{code(api.IPush, 1, api.IAbort, 0, api.IPush, 1), api.OK, []int{0, 1, -1, -1}, 2},
	} {
		wants(t, api.Program{Code: c.code}, c.e, c.depths, c.longest)
	}
}

// 3.3: the longest way is the near one, the far one, one of many.
func TestLongest(t *testing.T) {
	for _, c := range []struct {
		code []api.Instr
		want int
	}{
		{code(api.IStop, 0), 1},
		{code(api.IPush, 0, api.IAbort, 0), 2},
		{code(api.IPush, 0, api.IZero, 3, api.IStop, 0, api.IDel, 0, api.IDel, 0), 4},
		{code(api.IPush, 0, api.IZero, 5, api.IDel, 0, api.IDel, 0, api.IStop, 0, api.IStop, 0), 5},
		{code(api.IPush, 0, api.IZero, 4, api.IPush, 0, api.IAbort, 0, api.IStop, 0), 4},
		{code(api.IPush, 0, api.IZero, 3, api.IJump, 5, api.IDel, 0, api.IDel, 0, api.IStop, 0), 5},
		{code(api.IJump, 3, api.IDel, 0, api.IDel, 0, api.IDel, 0), 2},
		{code(api.IStop, 0, api.IDel, 0, api.IDel, 0), 1},
		{slices.Concat(times(250, api.IDel), code(api.IJump, 256), times(5, api.IDel)), 251},
		{slices.Concat(times(255, api.IDel), code(api.IStop, 0)), 256},
	} {
		if n, e := lang.Longest(api.Program{Writes: 1, Code: c.code}); n != c.want || e != api.OK {
			t.Errorf("Longest of %v is %d, %d, want %d", c.code, n, e, c.want)
		}
	}
}

// 3.1 to 3.3: as many forks as there can be have more ways than could be gone one by one.
func TestManyWays(t *testing.T) {
	var c []api.Instr
	var depths []int
	for len(c) < 254 {
		at := int64(len(c))
		c = append(c, code(api.IPush, 1, api.IZero, at+3, api.IDel, 0)...)
		depths = append(depths, 0, 1, 0)
	}
	wants(t, api.Program{Writes: 1, Code: c}, api.OK, append(depths, 0), len(c))
}

// 3.2, R4: the depths are new memory each time.
func TestDepthsMemory(t *testing.T) {
	p := api.Program{Code: code(api.IPush, 1, api.IZero, 3, api.IStop, 0)}
	first, _ := lang.Depths(p)
	second, _ := lang.Depths(p)
	for i := range first[:cap(first)] {
		first[:cap(first)][i] = 99
	}
	third, _ := lang.Depths(p)
	for _, d := range [][]int{second, third} {
		if !slices.Equal(d, []int{0, 1, 0, 0}) {
			t.Errorf("depths %v", d)
		}
	}
}

// goesTo is the places that an instruction goes to, by the chapter's words.
func goesTo(in api.Instr, at int) []int {
	switch in.Op {
	case api.IStop, api.IAbort:
		return nil
	case api.IJump:
		return []int{int(in.A)}
	case api.IZero:
		return []int{int(in.A), at + 1}
	}
	return []int{at + 1}
}

// soundA tells whether an instruction's A is one of the table's, or a place behind it.
func soundA(p api.Program, at int) bool {
	in := p.Code[at]
	switch table[in.Op].a {
	case anyNumber:
		return true
	case aLocal:
		return in.A >= 0 && in.A <= int64(p.Locals)-1
	case anArg:
		return in.A >= 0 && in.A <= int64(p.Args)-1
	case aRead:
		return in.A >= 0 && in.A <= int64(p.Reads)-1
	case aWrite:
		return in.A >= 0 && in.A <= int64(p.Writes)-1
	case aPlace:
		return in.A >= int64(at)+1 && in.A <= int64(len(p.Code))
	}
	return in.A == 0
}

// goAllWays is Verify's answer, the depths and the longest way, found by going every way one by one.
func goAllWays(p api.Program) (api.Errno, []int, int) {
	for at, in := range p.Code {
		if in.Op < 0 || in.Op >= len(table) {
			return api.ErrOp, nil, 0
		}
		if !soundA(p, at) && table[in.Op].a == aPlace {
			return api.ErrJump, nil, 0
		}
		if !soundA(p, at) {
			return api.ErrArg, nil, 0
		}
	}
	depths, longest, sound := slices.Repeat([]int{-1}, len(p.Code)+1), 0, true
	var walk func(at, depth, steps int)
	walk = func(at, depth, steps int) {
		sound = sound && (depths[at] == -1 || depths[at] == depth)
		depths[at] = depth
		longest = max(longest, steps)
		if at == len(p.Code) || !sound {
			return
		}
		row := table[p.Code[at].Op]
		sound = depth >= row.takes && depth-row.takes+row.leaves <= 32
		for _, to := range goesTo(p.Code[at], at) {
			if sound {
				walk(to, depth-row.takes+row.leaves, steps+1)
			}
		}
		longest = max(longest, steps+1)
	}
	walk(0, 0, 0)
	if !sound {
		return api.ErrStack, nil, 0
	}
	return api.OK, depths, longest
}

// 3.1 to 3.3: all programs of two instructions, and all of four of some few instructions, against going every way.
func TestProgramsOfAllShortCodes(t *testing.T) {
	var all []api.Instr
	for op := -1; op <= 37; op++ {
		for a := int64(-1); a <= 3; a++ {
			all = append(all, api.Instr{Op: op, A: a})
		}
	}
	for _, a := range all {
		for _, b := range all {
			p := api.Program{Args: 1, Reads: 2, Writes: 1, Locals: 2, Code: []api.Instr{a, b}}
			e, depths, longest := goAllWays(p)
			wants(t, p, e, depths, longest)
		}
	}
	few := code(api.IStop, 0, api.IPush, 7, api.IDup, 0, api.IAdd, 0, api.IOut, 0, api.IAbort, 0, api.IPutX, 0, api.IJump, 2, api.IJump, 3, api.IJump, 4, api.IZero, 2, api.IZero, 3, api.IZero, 4)
	for _, a := range few {
		for _, b := range few {
			for _, c := range few {
				for _, d := range few {
					p := api.Program{Code: []api.Instr{a, b, c, d}}
					e, depths, longest := goAllWays(p)
					wants(t, p, e, depths, longest)
				}
			}
		}
	}
}

// anyProgram is a program most of whose instructions can stand where they stand.
func anyProgram(r *rand.Rand, size int) api.Program {
	p := api.Program{Args: 1 + r.Intn(3), Reads: 1 + r.Intn(3), Writes: 1 + r.Intn(3), Locals: 1 + r.Intn(3)}
	rooms := map[int]int{aLocal: p.Locals, anArg: p.Args, aRead: p.Reads, aWrite: p.Writes}
	depth := 0
	for at := range size {
		row := table[r.Intn(len(table))]
		for range 20 {
			if row.takes <= depth && row.op != api.IStop && row.op != api.IAbort {
				break
			}
			row = table[r.Intn(len(table))]
		}
		depth += row.leaves - row.takes
		in := api.Instr{Op: row.op}
		switch row.a {
		case anyNumber:
			in.A = r.Int63() - r.Int63()
		case aPlace:
			in.A = int64(at + 1 + r.Intn(min(2, size-at)))
		case mustBe0:
		default:
			in.A = int64(r.Intn(rooms[row.a]))
		}
		if r.Intn(60) == 0 {
			in.A += int64(r.Intn(9) - 4)
		}
		if r.Intn(200) == 0 {
			in.Op = r.Intn(45) - 4
		}
		p.Code = append(p.Code, in)
	}
	return p
}

// 3.1 to 3.3: any programs against going every way.
func TestAnyPrograms(t *testing.T) {
	r := rand.New(rand.NewSource(3))
	seen := map[api.Errno]int{}
	for i := range 40000 {
		p := anyProgram(r, 1+i%14)
		e, depths, longest := goAllWays(p)
		wants(t, p, e, depths, longest)
		seen[e]++
	}
	for _, e := range []api.Errno{api.OK, api.ErrOp, api.ErrArg, api.ErrJump, api.ErrStack} {
		if seen[e] < 200 {
			t.Errorf("only %d programs with %d", seen[e], e)
		}
	}
}
