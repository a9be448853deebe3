package compile

import (
	"prelude/api"
	"prelude/vm"
)

// folding reckons constant expressions. What a part was reckoned to it keeps, as lists may share memory.
type folding struct {
	consts map[string]int64
	known  map[*api.Expr]int64
}

func newFolding() *folding {
	return &folding{map[string]int64{}, map[*api.Expr]int64{}}
}

// constant looks a constant expression over, that stands within so many other parts, and is its value.
func (f *folding) constant(x *api.Expr, n *names, deep int) int64 {
	lookOver(x, deep, n.fixed)
	return f.value(x)
}

// value is the value of an expression that was looked over.
func (f *folding) value(x *api.Expr) int64 {
	v, is := f.known[x]
	if !is {
		v = f.reckon(x)
		f.known[x] = v
	}
	return v
}

func (f *folding) reckon(x *api.Expr) int64 {
	part := func(i int) int64 { return f.value(&x.Args[i]) }
	switch x.Kind {
	case api.ENum:
		return x.N
	case api.EName:
		return f.consts[x.Name]
	case api.EAnd:
		return truth(part(0) != 0 && part(1) != 0)
	case api.EOr:
		return truth(part(0) != 0 || part(1) != 0)
	case api.ECond:
		if part(0) != 0 {
			return part(1)
		}
		return part(2)
	}
	return f.run(x)
}

// run lets the machine reckon what an instruction makes of an expression's parts: so its rules stand in one place.
func (f *folding) run(x *api.Expr) int64 {
	var code []api.Instr
	for i := range x.Args {
		code = append(code, api.Instr{Op: api.IPush, A: f.value(&x.Args[i])})
	}
	code = append(code, api.Instr{Op: x.Op}, api.Instr{Op: api.IOut})
	// A program as short as this is sound: the machine takes it.
	done, _ := vm.Run(api.Program{Code: code}, nil, nil)
	want(done.Commit, x.At, api.ErrFold)
	return done.Out[0]
}

// truth is 1 for what holds, and 0 for what doesn't.
func truth(holds bool) int64 {
	if holds {
		return 1
	}
	return 0
}
