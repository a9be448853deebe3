package vm_test

import (
	"math"
	"math/big"
	"slices"
	"testing"

	"prelude/api"
)

// edges is the numbers at which something may turn.
var edges = []int64{
	math.MinInt64, math.MinInt64 + 1, math.MinInt32, -65, -64, -63, -10, -3, -2, -1, 0, 1, 2, 3, 7, 10, 31, 32, 62, 63, 64, 65, 99, 255, 256,
	math.MaxInt32, 1 << 32, 1 << 33, 3037000500, 0x5555555555555555, math.MaxInt64 - 1, math.MaxInt64,
}

// wrapped is a whole number, wrapped round to 64 bits.
func wrapped(n *big.Int) int64 {
	low := new(big.Int).And(n, new(big.Int).SetUint64(math.MaxUint64))
	return int64(low.Uint64())
}

// holds is 1 for true.
func holds(b bool) int64 {
	return map[bool]int64{true: 1}[b]
}

// reckoned is what the chapter says of an instruction with two values, by whole numbers of any size.
func reckoned(op int, x, y int64) (int64, api.Errno) {
	a, b, n := big.NewInt(x), big.NewInt(y), new(big.Int)
	order := a.Cmp(b)
	switch op {
	case api.IAdd:
		return wrapped(n.Add(a, b)), api.OK
	case api.ISub:
		return wrapped(n.Sub(a, b)), api.OK
	case api.IMul:
		return wrapped(n.Mul(a, b)), api.OK
	case api.IDiv, api.IMod:
		if y == 0 {
			return 0, api.FaultDivide
		}
		if op == api.IDiv {
			return wrapped(n.Quo(a, b)), api.OK
		}
		return wrapped(n.Rem(a, b)), api.OK
	case api.IAnd:
		return wrapped(n.And(a, b)), api.OK
	case api.IOr:
		return wrapped(n.Or(a, b)), api.OK
	case api.IXor:
		return wrapped(n.Xor(a, b)), api.OK
	case api.IShl, api.IShr:
		if y < 0 {
			return 0, api.FaultShift
		}
		if op == api.IShl {
			return wrapped(n.Lsh(a, uint(min(y, 64)))), api.OK
		}
		return wrapped(n.Rsh(a, uint(min(y, 64)))), api.OK
	case api.IEq:
		return holds(order == 0), api.OK
	case api.INe:
		return holds(order != 0), api.OK
	case api.ILt:
		return holds(order < 0), api.OK
	case api.ILe:
		return holds(order <= 0), api.OK
	case api.IGt:
		return holds(order > 0), api.OK
	case api.IGe:
		return holds(order >= 0), api.OK
	}
	if (order < 0) == (op == api.IMin) {
		return x, api.OK
	}
	return y, api.OK
}

// pairOps is the instructions that take two values and leave one.
var pairOps = []int{
	api.IAdd, api.ISub, api.IMul, api.IDiv, api.IMod, api.IAnd, api.IOr, api.IXor, api.IShl, api.IShr,
	api.IEq, api.INe, api.ILt, api.ILe, api.IGt, api.IGe, api.IMin, api.IMax,
}

// 5.2: each instruction with two values, at all pairs of edges; what lies below them stays.
func TestPairs(t *testing.T) {
	for _, op := range pairOps {
		for _, x := range edges {
			for _, y := range edges {
				p := alone(api.IPush, 77, api.IPush, x, api.IPush, y, int64(op), 0)
				v, fault := reckoned(op, x, y)
				if fault != api.OK {
					looks(t, does(t, p, nil, nil, fails(4, fault, 0, 0)), 3, nil, nil)
					continue
				}
				looks(t, does(t, p, nil, nil, commits(4, nil)), 4, []int64{77, v}, nil)
			}
		}
	}
}

// 5.2: pairs whose answers are written out.
func TestPairsWrittenOut(t *testing.T) {
	const least, most = math.MinInt64, math.MaxInt64
	for _, c := range [][4]int64{
		{api.IAdd, most, 1, least}, {api.ISub, least, 1, most}, {api.ISub, 3, 5, -2}, {api.IMul, 1 << 62, 2, least}, {api.IMul, least, -1, least},
		{api.IDiv, 7, 2, 3}, {api.IDiv, -7, 2, -3}, {api.IDiv, 7, -2, -3}, {api.IDiv, -7, -2, 3}, {api.IDiv, least, -1, least},
		{api.IMod, 7, 2, 1}, {api.IMod, -7, 2, -1}, {api.IMod, 7, -2, 1}, {api.IMod, -7, -2, -1}, {api.IMod, least, -1, 0},
		{api.IAnd, 12, 10, 8}, {api.IOr, 12, 10, 14}, {api.IXor, 12, 10, 6}, {api.IXor, -1, 5, -6},
		{api.IShl, 1, 63, least}, {api.IShl, 1, 64, 0}, {api.IShl, 3, 0, 3}, {api.IShl, -1, most, 0}, {api.IShl, 1, 1 << 32, 0},
		{api.IShr, least, 63, -1}, {api.IShr, -8, 1, -4}, {api.IShr, -7, 1, -4}, {api.IShr, -8, 99, -1}, {api.IShr, 8, most, 0}, {api.IShr, -8, 1 << 32, -1},
		{api.IEq, 3, 3, 1}, {api.IEq, 3, 4, 0}, {api.INe, 3, 3, 0}, {api.INe, 3, 4, 1},
		{api.ILt, 3, 4, 1}, {api.ILt, 4, 4, 0}, {api.ILt, least, most, 1}, {api.ILe, 4, 4, 1}, {api.ILe, 5, 4, 0},
		{api.IGt, 5, 4, 1}, {api.IGt, 4, 4, 0}, {api.IGt, most, least, 1}, {api.IGe, 4, 4, 1}, {api.IGe, 3, 4, 0},
		{api.IMin, 3, -4, -4}, {api.IMin, -4, 3, -4}, {api.IMax, 3, -4, 3}, {api.IMax, -4, 3, 3},
	} {
		does(t, alone(api.IPush, c[1], api.IPush, c[2], c[0], 0, api.IOut, 0), nil, nil, commits(4, c[3:]))
	}
}

// 5.2: the instructions that move one value, or reckon with one.
func TestSingles(t *testing.T) {
	for _, x := range edges {
		looks(t, does(t, alone(api.IPush, x), nil, nil, commits(1, nil)), 1, []int64{x}, nil)
		looks(t, does(t, alone(api.IPush, 5, api.IPush, x, api.IPop, 0), nil, nil, commits(3, nil)), 3, []int64{5}, nil)
		looks(t, does(t, alone(api.IPush, 5, api.IPush, x, api.IDup, 0), nil, nil, commits(3, nil)), 3, []int64{5, x, x}, nil)
		looks(t, does(t, alone(api.IPush, x, api.INeg, 0), nil, nil, commits(2, nil)), 2, []int64{wrapped(new(big.Int).Neg(big.NewInt(x)))}, nil)
		looks(t, does(t, alone(api.IPush, x, api.INot, 0), nil, nil, commits(2, nil)), 2, []int64{holds(x == 0)}, nil)
		does(t, alone(api.IPush, x, api.IOut, 0), nil, nil, commits(2, []int64{x}))
		does(t, alone(api.IPush, x, api.IAbort, 0), nil, nil, fails(2, api.FaultAbort, x, 0))
		steps, at := 4, 3 // past the IZero stands an IStop
		if x == 0 {
			steps, at = 3, 4
		}
		looks(t, does(t, alone(api.IPush, 5, api.IPush, x, api.IZero, 4, api.IStop, 0), nil, nil, commits(steps, nil)), at, []int64{5}, nil)
	}
}

// 5.2: each local is its own; it holds what was saved last.
func TestLocals(t *testing.T) {
	for n := range int64(16) {
		locals := make([]int64, 16)
		p := api.Program{Locals: 16, Code: code(api.ILoad, n, api.IPush, 7, api.ISave, n, api.ILoad, n, api.IPush, -8, api.ISave, n)}
		locals[n] = -8
		looks(t, does(t, p, nil, nil, commits(6, nil)), 6, []int64{0, 7}, locals)
	}
}

// 5.2: the args, and the reads by number: what stands there, 0 where nothing does, whatever the cell's Value is; whether something does.
func TestArgsAndReads(t *testing.T) {
	var args []int64
	var reads []api.Cell
	for i := range int64(16) {
		args = append(args, 1000+i)
		reads = append(reads, api.Cell{Is: i%3 != 0, Value: 2000 + i})
	}
	reads[4].Value = 0 // a 0 stands there: that is not nothing
	for i := range int64(16) {
		want := []int64{args[i], 0, 0, 0}
		if i%3 != 0 {
			want = []int64{args[i], reads[i].Value, 1, reads[i].Value}
		}
		p := api.Program{Args: 16, Reads: 16, Code: code(api.IArg, i, api.IGet, i, api.IHas, i, api.IPush, i, api.IGetX, 0)}
		looks(t, does(t, p, args, reads, commits(5, nil)), 5, want, nil)
	}
}

// 5.2: IGetX and IPutX by every number around the reads and writes that there are.
func TestNumbersOfReadsAndWrites(t *testing.T) {
	for _, n := range []int{0, 1, 2, 15, 16} {
		for _, i := range append(slices.Clone(edges), 14, 15, 16, 17, -16, math.MaxInt32+1, 1<<32+1, -1<<32) {
			get := api.Program{Reads: n, Code: code(api.IPush, i, api.IGetX, 0, api.IOut, 0)}
			put := api.Program{Writes: n, Code: code(api.IPush, i, api.IPush, 9, api.IPutX, 0)}
			var reads []api.Cell
			for v := range n {
				reads = append(reads, api.Cell{Is: true, Value: int64(v) * 5})
			}
			if i < 0 || i >= int64(n) {
				does(t, get, nil, reads, fails(2, api.FaultIndex, 0, 0))
				does(t, put, nil, nil, fails(3, api.FaultIndex, 0, n))
				continue
			}
			puts := make([]api.Put, n)
			puts[i] = api.Put{Kind: api.Set, Value: 9}
			does(t, get, nil, reads, commits(3, []int64{i * 5}))
			does(t, put, nil, nil, commits(3, nil, puts...))
		}
	}
}

// 5.2: a program never reads what it puts itself.
func TestPutsAreNotRead(t *testing.T) {
	p := api.Program{Reads: 1, Writes: 1, Code: code(api.IPush, 5, api.IPut, 0, api.IGet, 0, api.IOut, 0, api.IDel, 0, api.IHas, 0, api.IOut, 0)}
	does(t, p, nil, cells(3), commits(7, []int64{3, 1}, api.Put{Kind: api.Gone}))
}
