package scout_test

import (
	"math"
	"math/rand"

	"prelude/api"
	"prelude/lang"
)

// maker makes things by chance.
type maker struct {
	*rand.Rand
	lib []api.Proc // the base
}

func newMaker(seed int64) *maker { return &maker{rand.New(rand.NewSource(seed)), base()} }

// one is one of several.
func one[T any](m *maker, list ...T) T { return list[m.Intn(len(list))] }

// rarely is true once in so many times.
func (m *maker) rarely(times int) bool { return m.Intn(times) == 0 }

// row is one of few rows, which are values as well.
func (m *maker) row() int64 { return int64(m.Intn(4)) }

// table is one of those from which paths hop.
func (m *maker) table() int { return 1 + m.Intn(3) }

// path is a path that ends in a table, mostly.
func (m *maker) path(end int) api.Path {
	if m.rarely(30) {
		end = one(m, -1, 65536, 1, 2, 3)
	}
	table := func() int {
		if m.rarely(80) {
			return one(m, -1, 65536, math.MinInt)
		}
		return m.table()
	}
	hops := one(m, 0, 0, 0, 1, 1, 1, 2, 3)
	if hops == 0 {
		return api.Path{Key: api.Key{Table: end, Row: m.row()}}
	}
	p := api.Path{Key: api.Key{Table: table(), Row: m.row()}}
	for range hops - 1 {
		p.Hops = append(p.Hops, api.Hop{Table: table(), Off: one[int64](m, 0, 0, 0, 1, -1)})
	}
	p.Hops = append(p.Hops, api.Hop{Table: end, Off: one[int64](m, 0, 0, 7)})
	return p
}

// paths is so many paths, each with an end in a table of its own, mostly.
func (m *maker) paths(n, first int) []api.Path {
	if m.rarely(40) {
		n = m.Intn(4)
	}
	var list []api.Path
	for i := range n {
		list = append(list, m.path(first+i))
	}
	return list
}

// wish is a wish for a procedure of the base, mostly as it asks for.
func (m *maker) wish() api.Wish {
	w := api.Wish{Proc: m.Intn(len(m.lib))}
	if m.rarely(2) {
		w.Proc = put
	}
	p := m.lib[w.Proc].Program
	for range p.Args {
		w.Args = append(w.Args, m.row())
	}
	if w.Proc == sly && m.rarely(3) {
		w.Args[0] = api.Foretold
	}
	if m.rarely(40) {
		w.Args = append(w.Args, 1)
	}
	// Some write where others hop from, and so they make that foretold wrongly.
	first := one(m, 1, 2, 3, 9, 9)
	w.Reads, w.Writes = m.paths(p.Reads, 7), m.paths(p.Writes, first)
	if m.rarely(60) {
		w.Proc = one(m, -1, 30, 99, math.MaxInt, math.MinInt)
	}
	return w
}

// wishes is any wishes.
func (m *maker) wishes(most int) []api.Wish {
	var list []api.Wish
	for range m.Intn(most + 1) {
		list = append(list, m.wish())
	}
	return list
}

// batch is some changes in the tables from which paths hop, and where they end.
func (m *maker) batch() []api.Tx {
	var b []api.Tx
	for range 1 + m.Intn(20) {
		k := api.Key{Table: m.table(), Row: m.row()}
		if m.rarely(5) {
			k.Table = 7 + m.Intn(4)
		}
		if m.rarely(8) {
			b = append(b, api.Tx{Proc: del, Writes: []api.Key{k}})
			continue
		}
		b = append(b, puts(k, m.row()))
	}
	return b
}

// program is any sound program that does not read by number.
func (m *maker) program(size, jumps int) api.Program {
	p := api.Program{Args: m.Intn(4), Reads: m.Intn(4), Writes: m.Intn(4), Locals: m.Intn(3)}
	for len(p.Code) < size {
		in := api.Instr{Op: m.Intn(api.NumOps)}
		if m.rarely(3) {
			in.Op = one(m, api.IPush, api.IArg, api.IGet, api.IHas, api.IPut, api.IOut)
		}
		if lang.Wants(in.Op) {
			in.A = int64(m.Intn(4))
		}
		if (in.Op == api.IStop || in.Op == api.IAbort) && !m.rarely(6) || in.Op == api.IGetX {
			continue
		}
		q := p
		q.Code = append(p.Code[:len(p.Code):len(p.Code)], in)
		if lang.Verify(q) == api.OK {
			p = q
		}
	}
	for range jumps {
		if q := m.jumping(p); lang.Verify(q) == api.OK {
			p = q
		}
	}
	return p
}

// jumping is a program with one more jump or zero at any place, to any place; it may not be sound.
func (m *maker) jumping(p api.Program) api.Program {
	from := m.Intn(len(p.Code) + 1)
	to := from + m.Intn(len(p.Code)-from+1)
	more := one(m, []api.Instr{{Op: api.IJump}}, []api.Instr{{Op: api.IArg}, {Op: api.IZero}}, []api.Instr{{Op: api.IHas}, {Op: api.IZero}})
	more[len(more)-1].A = int64(to + len(more))
	q := p
	q.Code = append([]api.Instr{}, p.Code[:from]...)
	q.Code = append(append(q.Code, more...), p.Code[from:]...)
	for i := range q.Code {
		in := &q.Code[i]
		inserted := from <= i && i < from+len(more)
		if !inserted && (in.Op == api.IJump || in.Op == api.IZero) && in.A > int64(from) {
			in.A += int64(len(more))
		}
	}
	return q
}
