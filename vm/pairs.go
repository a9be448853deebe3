package vm

import "prelude/api"

// pairs is what each instruction with two values does, by its number; x lies below y.
func pairs() [api.NumOps]func(x, y int64) (int64, api.Errno) {
	return [api.NumOps]func(x, y int64) (int64, api.Errno){
		api.IAdd: func(x, y int64) (int64, api.Errno) { return x + y, api.OK },
		api.ISub: func(x, y int64) (int64, api.Errno) { return x - y, api.OK },
		api.IMul: func(x, y int64) (int64, api.Errno) { return x * y, api.OK },
		api.IDiv: divide,
		api.IMod: remain,
		api.IAnd: func(x, y int64) (int64, api.Errno) { return x & y, api.OK },
		api.IOr:  func(x, y int64) (int64, api.Errno) { return x | y, api.OK },
		api.IXor: func(x, y int64) (int64, api.Errno) { return x ^ y, api.OK },
		api.IShl: shiftUp,
		api.IShr: shiftDown,
		api.IEq:  func(x, y int64) (int64, api.Errno) { return truth(x == y), api.OK },
		api.INe:  func(x, y int64) (int64, api.Errno) { return truth(x != y), api.OK },
		api.ILt:  func(x, y int64) (int64, api.Errno) { return truth(x < y), api.OK },
		api.ILe:  func(x, y int64) (int64, api.Errno) { return truth(x <= y), api.OK },
		api.IGt:  func(x, y int64) (int64, api.Errno) { return truth(x > y), api.OK },
		api.IGe:  func(x, y int64) (int64, api.Errno) { return truth(x >= y), api.OK },
		api.IMin: func(x, y int64) (int64, api.Errno) { return min(x, y), api.OK },
		api.IMax: func(x, y int64) (int64, api.Errno) { return max(x, y), api.OK },
	}
}

func divide(x, y int64) (int64, api.Errno) {
	if y == 0 {
		return 0, api.FaultDivide
	}
	return x / y, api.OK
}

func remain(x, y int64) (int64, api.Errno) {
	if y == 0 {
		return 0, api.FaultDivide
	}
	return x % y, api.OK
}

func shiftUp(x, y int64) (int64, api.Errno) {
	if y < 0 {
		return 0, api.FaultShift
	}
	return x << uint64(y), api.OK
}

func shiftDown(x, y int64) (int64, api.Errno) {
	if y < 0 {
		return 0, api.FaultShift
	}
	return x >> uint64(y), api.OK
}
