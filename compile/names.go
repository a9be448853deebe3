package compile

import (
	"maps"

	"prelude/api"
)

// names is what names stand for at a place of a source: the constants their values, the locals that are visible their slots, the others their places in their lists.
type names struct {
	consts, args, locals map[string]int64
	reads, writes        map[string]int64
}

// head is the names that a procedure's body begins with.
func head(d *api.Define, consts map[string]int64) names {
	n := names{consts: consts, locals: map[string]int64{}}
	n.args = places(d.Args, api.MaxArgs, consts)
	n.reads = places(d.Reads, api.MaxReads, nil)
	n.writes = places(d.Writes, api.MaxWrites, nil)
	return n
}

// places is the place of each name of a list, that may have so many, all unlike and unlike those that are taken.
func places(list []api.Name, most int, taken map[string]int64) map[string]int64 {
	out := map[string]int64{}
	for i, name := range list {
		want(i < most, name.At, api.ErrLimit)
		_, is := taken[name.Text]
		_, was := out[name.Text]
		want(!is && !was, name.At, api.ErrAgain)
		out[name.Text] = int64(i)
	}
	return out
}

// block is the names that a block begins with, where these are those around it.
func (n names) block() names {
	n.locals = maps.Clone(n.locals)
	return n
}

// load is the instruction that lays what a name stands for, and whether it stands for a constant, an arg or a visible local. It tells which of them, too.
func (n *names) load(name string) (api.Instr, bool) {
	if v, is := n.consts[name]; is {
		return api.Instr{Op: api.IPush, A: v}, true
	}
	if place, is := n.args[name]; is {
		return api.Instr{Op: api.IArg, A: place}, true
	}
	if slot, is := n.locals[name]; is {
		return api.Instr{Op: api.ILoad, A: slot}, true
	}
	return api.Instr{}, false
}

// local is the slot of the local that a statement names.
func (n *names) local(s *api.Stmt) int64 {
	in, is := n.load(s.Name)
	want(is, s.At, api.ErrUnknown)
	want(in.Op == api.ILoad, s.At, api.ErrSort)
	return in.A
}

// write is the place of the write that a statement names.
func (n *names) write(s *api.Stmt) int64 {
	place, is := n.writes[s.Name]
	want(is, s.At, api.ErrUnknown)
	return place
}

// let makes the local of a statement visible, and is its slot.
func (n *names) let(s *api.Stmt) int64 {
	_, was := n.load(s.Name)
	want(!was, s.At, api.ErrAgain)
	want(len(n.locals) < api.MaxLocals, s.At, api.ErrLimit)
	slot := int64(len(n.locals))
	n.locals[s.Name] = slot
	return slot
}
