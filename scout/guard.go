package scout

import (
	"slices"
	"strconv"
	"strings"

	"prelude/api"
)

// checkGuards tells why a sound procedure can't be guarded by so many.
func checkGuards(p api.Proc, guards int) api.Errno {
	switch {
	case guards < 0 || guards > api.MaxArgs-p.Program.Args:
		return api.ErrArgs
	case guards > api.MaxReads-p.Program.Reads:
		return api.ErrReads
	case len(guardedName(p.Name, guards)) > api.MaxName:
		return api.ErrName
	case slices.ContainsFunc(p.Program.Code, readsByNumber):
		return api.ErrBlind
	case len(front(guards))+len(p.Program.Code) > api.MaxCode:
		return api.ErrLarge
	}
	return api.OK
}

// guarded is a procedure with guards in front, that can have them.
func guarded(p api.Proc, guards int) api.Proc {
	code := front(guards)
	places := len(code)
	for _, in := range p.Program.Code {
		code = append(code, behind(in, guards, places))
	}
	p.Name = guardedName(p.Name, guards)
	p.Program.Args += guards
	p.Program.Reads += guards
	p.Program.Code = code
	return p
}

// guardedName is what a procedure is called with so many guards.
func guardedName(name string, guards int) string { return name + "_g" + strconv.Itoa(guards) }

// readsByNumber tells whether an instruction finds its read by a number that is reckoned: it would find a guard in its place.
func readsByNumber(in api.Instr) bool { return in.Op == api.IGetX }

// front is the code that holds what stands at the guards against the args in front.
func front(guards int) []api.Instr {
	if guards == 0 {
		return nil
	}
	fail := int64(6*guards + 1)
	body := fail + 2
	var code []api.Instr
	for i := range int64(guards) {
		code = append(code,
			api.Instr{Op: api.IHas, A: i}, api.Instr{Op: api.IZero, A: fail},
			api.Instr{Op: api.IGet, A: i}, api.Instr{Op: api.IArg, A: i}, api.Instr{Op: api.IEq}, api.Instr{Op: api.IZero, A: fail})
	}
	return append(code, api.Instr{Op: api.IJump, A: body}, api.Instr{Op: api.IPush, A: api.Foretold}, api.Instr{Op: api.IAbort})
}

// behind is an instruction as it is behind so many guards and so many places of other code.
func behind(in api.Instr, guards, places int) api.Instr {
	switch in.Op {
	case api.IArg, api.IGet, api.IHas:
		in.A += int64(guards)
	case api.IJump, api.IZero:
		in.A += int64(places)
	}
	return in
}

// roomFor tells whether a library of so many procedures may have them guarded by up to most as well.
func roomFor(procs, most int) bool {
	return most >= 0 && (procs == 0 || most < api.MaxProcs/procs)
}

// copied is the same procedures in memory of their own.
func copied(lib []api.Proc) []api.Proc {
	own := slices.Clone(lib)
	for i, p := range own {
		own[i].Name = strings.Clone(p.Name)
		own[i].Program.Code = slices.Clone(p.Program.Code)
	}
	return own
}
