package compile_test

import (
	"testing"

	"prelude/api"
	"prelude/compile"
)

// nested is an expression of so many signs around another.
func nested(n int, x api.Expr) api.Expr {
	for range n {
		x = neg(x)
	}
	return x
}

// doubled is an expression both of whose parts are one list's, so often: as a tree it has 2 to that many leaves.
func doubled(n int, kind, op int, leaf api.Expr) api.Expr {
	for range n {
		x := []api.Expr{leaf}
		leaf = api.Expr{Kind: kind, Op: op, Args: []api.Expr{{Kind: api.EUnary, Op: api.INeg, Args: x}, {Kind: api.EUnary, Op: api.INeg, Args: x}}}
	}
	return leaf
}

// blocks is statements that stand within so many blocks.
func blocks(n int, kind int, inner ...api.Stmt) []api.Stmt {
	for range n {
		inner = []api.Stmt{{Kind: kind, X: num(1), Body: inner}}
	}
	return inner
}

// Trees may be as deep as 65536 parts within one another.
func TestDeepTrees(t *testing.T) {
	const deep = 1<<16 - 2
	unknown := api.Expr{Kind: api.EName, Name: "x", At: api.Spot{Line: 3, Col: 4}}
	refusedTree(t, procedure(out(nested(deep, num(1)))), api.Spot{Line: 7, Col: 8}, api.ErrLarge)
	refusedTree(t, procedure(out(nested(deep, unknown))), api.Spot{Line: 3, Col: 4}, api.ErrUnknown)
	s := procedure(out(named("a")))
	s.Consts = []api.Const{{Name: "a", X: nested(deep, num(3))}}
	if got := spelled(compiled(t, s)[0].Program); got != "push 3, out" {
		t.Errorf("is %s", got)
	}
	zero := nested(deep-1, two(api.IDiv, num(1), num(0)))
	s.Consts[0].X = zero
	refusedTree(t, s, api.Spot{}, api.ErrFold)
	s = procedure(blocks(deep, api.SRepeat, out(num(2)))...)
	if got := spelled(compiled(t, s)[0].Program); got != "push 2, out" {
		t.Errorf("is %s", got)
	}
	refusedTree(t, procedure(blocks(deep, api.SRepeat, out(unknown))...), api.Spot{Line: 3, Col: 4}, api.ErrUnknown)
	refusedTree(t, procedure(blocks(deep, api.SIf)...), api.Spot{Line: 7, Col: 8}, api.ErrLarge)
}

// What a repeat does often is gone through no oftener than it is written.
func TestManyTimesNothing(t *testing.T) {
	empty := []api.Stmt{}
	for range 1000 {
		empty = []api.Stmt{{Kind: api.SRepeat, X: num(256), Body: empty}}
	}
	if p := compiled(t, procedure(empty...))[0].Program; len(p.Code) != 0 {
		t.Errorf("is %v", p)
	}
	// A stop, and nothing of what is far too long beside it.
	inner := []api.Stmt{out(num(1))}
	for range 1000 {
		inner = []api.Stmt{out(num(1)), {Kind: api.SRepeat, X: num(0), Body: []api.Stmt{{Kind: api.SRepeat, X: num(256), Body: inner}}}}
	}
	if got := spelled(compiled(t, procedure(inner...))[0].Program); got != "push 1, out" {
		t.Errorf("is %s", got)
	}
	for range 1000 {
		inner = []api.Stmt{{Kind: api.SRepeat, X: num(256), Body: inner}}
	}
	refusedTree(t, procedure(inner...), api.Spot{Line: 7, Col: 8}, api.ErrLarge)
}

// Lists may share memory: it is the same as if they were others that look alike.
func TestSharedLists(t *testing.T) {
	x := []api.Expr{num(2), named("b")}
	sum := api.Expr{Kind: api.EBinary, Op: api.IAdd, Args: x}
	let := []api.Stmt{{Kind: api.SLet, Name: "b", X: num(1)}, out(sum)}
	s := procedure(api.Stmt{Kind: api.SIf, X: num(1), Body: let, Else: let}, api.Stmt{Kind: api.SLet, Name: "c", X: num(1)}, api.Stmt{Kind: api.SRepeat, X: num(1), Body: let})
	const want = "push 1, zero 9, push 1, save 0, push 2, load 0, add, out, jump 15, push 1, save 0, push 2, load 0, add, out, " +
		"push 1, save 0, push 1, save 1, push 2, load 1, add, out"
	if got := spelled(compiled(t, s)[0].Program); got != want {
		t.Errorf("is\n%s, want\n%s", got, want)
	}
	// What is known at one place needs not be at another.
	s.Procs = append(s.Procs, api.Define{Name: "q", Body: []api.Stmt{out(sum)}})
	refusedTree(t, s, api.Spot{}, api.ErrUnknown)
	s.Procs[1].Args = []api.Name{{Text: "b"}}
	s.Procs[1].Body = []api.Stmt{{Kind: api.SRepeat, X: sum, Body: let}}
	refusedTree(t, s, api.Spot{}, api.ErrSort)
}

// Lists that share memory may make a tree far larger than what is handed in.
func TestDoubledTrees(t *testing.T) {
	const times = 60
	refusedTree(t, procedure(out(doubled(times, api.EBinary, api.IAdd, num(1)))), api.Spot{Line: 7, Col: 8}, api.ErrLarge)
	refusedTree(t, procedure(out(doubled(times, api.EBinary, api.IAdd, api.Expr{Kind: api.EName, Name: "x", At: api.Spot{Line: 2, Col: 2}}))), api.Spot{Line: 2, Col: 2}, api.ErrUnknown)
	s := procedure(out(named("a")))
	s.Consts = []api.Const{{Name: "a", X: doubled(times, api.EBinary, api.IAdd, num(1))}}
	if got := spelled(compiled(t, s)[0].Program); got != "push 1152921504606846976, out" {
		t.Errorf("is %s", got)
	}
	for _, kind := range []int{api.EAnd, api.EOr} {
		s.Consts[0].X = doubled(times, kind, 0, num(5))
		if got := spelled(compiled(t, s)[0].Program); got != "push 1, out" {
			t.Errorf("is %s", got)
		}
	}
}

// A list that stands within itself is a tree that goes on for ever: nothing is promised of it, but that the call ends.
func TestEndless(t *testing.T) {
	x := two(api.IAdd, num(1), num(2))
	x.Args[1] = x
	y := neg(num(1))
	y.Args[0] = y
	body := []api.Stmt{{Kind: api.SRepeat, X: num(2)}}
	body[0].Body = body
	branch := []api.Stmt{{Kind: api.SIf, X: num(2)}, {Kind: api.SIf, X: num(1)}}
	branch[0].Body, branch[1].Else = branch, branch
	for _, s := range []api.Source{
		procedure(out(x)), procedure(out(y)), procedure(body...), procedure(branch...),
		procedure(api.Stmt{Kind: api.SRepeat, X: x}), procedure(api.Stmt{Kind: api.SRepeat, X: y}),
		{Consts: []api.Const{{Name: "a", X: x}}}, {Consts: []api.Const{{Name: "a", X: y}}},
	} {
		if lib, err := compile.Compile(s); err == nil || lib != nil {
			t.Errorf("is %v, %v", lib, err)
		}
	}
}
