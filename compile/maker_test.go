package compile_test

import (
	"fmt"
	"math"
	"math/rand"
	"slices"

	"prelude/api"
)

// maker makes sources by chance. What it makes is mostly right: one name in wrong is any (0: none is).
type maker struct {
	*rand.Rand
	wrong                               int
	consts, args, locals, reads, writes []string
	places                              int
	repeats                             int // how many repeats it stands in
}

func newMaker(seed int64, wrong int) *maker {
	return &maker{Rand: rand.New(rand.NewSource(seed)), wrong: wrong}
}

// at is a place that nothing else has.
func (m *maker) at() api.Spot {
	m.places++
	return api.Spot{Line: m.places/40 + 1, Col: m.places%40 + 1}
}

// slips tells whether something is to be wrong by chance.
func (m *maker) slips() bool { return m.wrong > 0 && m.Intn(m.wrong) == 0 }

// any is any name.
func (m *maker) any() string { return string(rune('a' + m.Intn(26))) }

// fresh is a name that none of the lists has, or by a slip any.
func (m *maker) fresh(lists ...[]string) string {
	for {
		name := m.any()
		if m.slips() || !slices.ContainsFunc(lists, func(l []string) bool { return slices.Contains(l, name) }) {
			return name
		}
	}
}

// pick is a name of one of the lists, or by a slip any; none, if the lists have none.
func (m *maker) pick(lists ...[]string) (string, bool) {
	if m.slips() {
		return m.any(), true
	}
	all := slices.Concat(lists...)
	if len(all) == 0 {
		return "", false
	}
	return all[m.Intn(len(all))], true
}

func (m *maker) number() int64 {
	switch m.Intn(8) {
	case 0:
		return []int64{math.MaxInt64, math.MinInt64, -1, 63, 64, 1 << 32}[m.Intn(6)]
	case 1:
		return m.Int63() - m.Int63()
	}
	return int64(m.Intn(5))
}

func (m *maker) num() api.Expr {
	return api.Expr{Kind: api.ENum, N: m.number(), At: m.at()}
}

// leaf is an expression without parts.
func (m *maker) leaf(fixed bool) api.Expr {
	kind := api.ENum + m.Intn(4)
	if fixed && !m.slips() {
		kind = api.ENum + m.Intn(2)
	}
	var name string
	var ok bool
	switch kind {
	case api.EName:
		if fixed && !m.slips() {
			name, ok = m.pick(m.consts)
		} else {
			name, ok = m.pick(m.consts, m.args, m.args, m.locals, m.locals)
		}
	case api.EGet, api.EHas:
		name, ok = m.pick(m.reads)
	}
	if !ok {
		return m.num()
	}
	return api.Expr{Kind: kind, Name: name, At: m.at()}
}

// expr is an expression that is at most so deep; fixed: a constant one.
func (m *maker) expr(deep int, fixed bool) api.Expr {
	kind := api.EGetX + m.Intn(api.ECond-api.EGetX+1)
	if deep == 0 || m.Intn(4) == 0 || kind == api.EGetX && fixed && !m.slips() {
		return m.leaf(fixed)
	}
	x := api.Expr{Kind: kind, At: m.at()}
	n := 2
	switch kind {
	case api.EGetX:
		n = 1
	case api.EUnary:
		n, x.Op = 1, api.INeg+m.Intn(2)
	case api.EBinary:
		ops := binaries()
		x.Op = ops[m.Intn(len(ops))]
	case api.ECond:
		n = 3
	}
	for range n {
		x.Args = append(x.Args, m.expr(m.Intn(deep), fixed))
	}
	return x
}

// binaries is the instructions that an EBinary may have.
func binaries() []int {
	return []int{api.IAdd, api.ISub, api.IMul, api.IDiv, api.IMod, api.IAnd, api.IOr, api.IXor, api.IShl, api.IShr, api.IEq, api.INe, api.ILt, api.ILe, api.IGt, api.IGe, api.IMin, api.IMax}
}

// block is statements that are at most so deep; what they let is not seen behind them.
func (m *maker) block(deep int) []api.Stmt {
	visible := len(m.locals)
	var out []api.Stmt
	for range m.Intn(5) {
		if s, ok := m.stmt(deep); ok {
			out = append(out, s)
		}
	}
	m.locals = m.locals[:visible:visible]
	return out
}

// stmt is a statement that is at most so deep, if chance has made one that can be.
func (m *maker) stmt(deep int) (api.Stmt, bool) {
	s := api.Stmt{Kind: api.SLet + m.Intn(api.SRepeat), At: m.at()}
	if deep == 0 && s.Kind >= api.SAbort || s.Kind >= api.SAbort && s.Kind <= api.SStop && m.Intn(3) > 0 {
		s.Kind = api.SOut
	}
	ok := true
	switch s.Kind {
	case api.SLet:
		s.X = m.expr(3, false)
		s.Name = m.fresh(m.consts, m.args, m.locals)
		m.locals = append(m.locals, s.Name)
		return s, true
	case api.SSet:
		s.Name, ok = m.pick(m.locals)
	case api.SPut, api.SDel:
		s.Name, ok = m.pick(m.writes)
	case api.SIf:
		s.X = m.expr(3, false)
		s.Body, s.Else = m.block(deep-1), m.block(deep-1)
		return s, true
	case api.SRepeat:
		return m.repeat(s, deep), true
	case api.SPutX:
		s.Y = m.expr(3, false)
	}
	if s.Kind != api.SDel && s.Kind != api.SStop {
		s.X = m.expr(3, false)
	}
	return s, ok
}

func (m *maker) repeat(s api.Stmt, deep int) api.Stmt {
	s.X = api.Expr{Kind: api.ENum, N: int64(m.Intn(4)), At: m.at()}
	if m.Intn(3) == 0 {
		s.X = m.expr(2, true)
	} else if m.Intn(12) == 0 && m.repeats == 0 {
		s.X.N = int64(m.Intn(api.MaxCode + 2))
	}
	m.repeats++
	s.Body = m.block(deep - 1)
	m.repeats--
	return s
}

// names is at most n names, unlike and unlike those that are taken but for slips.
func (m *maker) names(n int, taken []string) ([]api.Name, []string) {
	var out []api.Name
	var texts []string
	for range m.Intn(n + 1) {
		name := m.fresh(taken, texts)
		texts = append(texts, name)
		out = append(out, api.Name{Text: name, At: m.at()})
	}
	return out, texts
}

func (m *maker) source() api.Source {
	var s api.Source
	m.consts, m.args, m.locals, m.reads, m.writes = nil, nil, nil, nil, nil
	for range m.Intn(4) {
		c := api.Const{Name: m.fresh(m.consts), X: m.expr(m.Intn(4), true), At: m.at()}
		m.consts = append(m.consts, c.Name)
		s.Consts = append(s.Consts, c)
	}
	for i := range m.Intn(4) {
		d := api.Define{Name: fmt.Sprint("p", i), At: m.at()}
		if m.slips() {
			d.Name = "p0"
		}
		d.Args, m.args = m.names(3, m.consts)
		d.Reads, m.reads = m.names(3, nil)
		d.Writes, m.writes = m.names(3, nil)
		d.Body = m.block(3)
		s.Procs = append(s.Procs, d)
	}
	return s
}
