package source_test

import (
	"math/rand"
	"reflect"
	"slices"
	"strings"
	"sync"
	"testing"
	"unsafe"

	"prelude/api"
	"prelude/source"
)

// stretch is a piece of memory.
type stretch struct {
	from, to uintptr
}

// stretches is the memory of all lists in a value, spare room behind their ends too.
func stretches(v reflect.Value) []stretch {
	var out []stretch
	switch v.Kind() {
	case reflect.Slice:
		if v.Cap() > 0 {
			out = append(out, stretch{v.Pointer(), v.Pointer() + uintptr(v.Cap())*v.Type().Elem().Size()})
		}
		for i := range v.Len() {
			out = append(out, stretches(v.Index(i))...)
		}
	case reflect.Struct:
		for i := range v.NumField() {
			out = append(out, stretches(v.Field(i))...)
		}
	}
	return out
}

// apart asks that no two pieces of memory overlap.
func apart(t *testing.T, list []stretch) {
	t.Helper()
	slices.SortFunc(list, func(a, b stretch) int {
		if a.from < b.from {
			return -1
		}
		return 1
	})
	for i := 1; i < len(list); i++ {
		if list[i].from < list[i-1].to {
			t.Fatalf("two lists share memory")
		}
	}
}

// 18.4: what is answered is new memory: no two lists of two answers share any.
func TestAnswersAreNewMemory(t *testing.T) {
	m := maker{rand.New(rand.NewSource(184))}
	for range 300 {
		text := mustPrint(m.source())
		one, other := parsed(t, text), parsed(t, text)
		tokens, more := tokenized(t, text), tokenized(t, text)
		var all []stretch
		for _, v := range []any{one, other, tokens, more} {
			all = append(all, stretches(reflect.ValueOf(v))...)
		}
		apart(t, all)
	}
}

// 18.4: no token and no name has a piece of the text that was handed in.
func TestTextIsNotKept(t *testing.T) {
	text := "const FEE = 10; proc move(amount) reads from { out amount - FEE; }"
	first := uintptr(unsafe.Pointer(unsafe.StringData(text)))
	within := func(s string) bool {
		p := uintptr(unsafe.Pointer(unsafe.StringData(s)))
		return s != "" && first <= p && p < first+uintptr(len(text))
	}
	for _, k := range tokenized(t, text) {
		if within(k.Text) {
			t.Errorf("%q is a piece of what was handed in", k.Text)
		}
	}
	s := parsed(t, text)
	d := s.Procs[0]
	for _, name := range []string{s.Consts[0].Name, d.Name, d.Args[0].Text, d.Reads[0].Text, d.Body[0].X.Args[0].Name} {
		if within(name) {
			t.Errorf("%q is a piece of what was handed in", name)
		}
	}
}

// roomy is a copy of a tree whose lists have spare room, in which something stands.
func roomy(s api.Source) api.Source {
	out := api.Source{
		Consts: append(s.Consts[:len(s.Consts):len(s.Consts)], api.Const{Name: "spare"})[:len(s.Consts)],
		Procs:  append(s.Procs[:len(s.Procs):len(s.Procs)], api.Define{Name: "spare"})[:len(s.Procs)],
	}
	for i := range out.Consts {
		out.Consts[i].X = roomyExpr(out.Consts[i].X)
	}
	for i := range out.Procs {
		d := &out.Procs[i]
		for _, list := range []*[]api.Name{&d.Args, &d.Reads, &d.Writes} {
			*list = append((*list)[:len(*list):len(*list)], api.Name{Text: "spare"})[:len(*list)]
		}
		d.Body = roomyStmts(d.Body)
	}
	return out
}

func roomyStmts(stmts []api.Stmt) []api.Stmt {
	out := append(stmts[:len(stmts):len(stmts)], api.Stmt{Kind: 77, Name: "spare"})[:len(stmts)]
	for i := range out {
		s := &out[i]
		s.X, s.Y, s.Body, s.Else = roomyExpr(s.X), roomyExpr(s.Y), roomyStmts(s.Body), roomyStmts(s.Else)
	}
	return out
}

func roomyExpr(x api.Expr) api.Expr {
	x.Args = append(x.Args[:len(x.Args):len(x.Args)], api.Expr{Kind: 77, Name: "spare"})[:len(x.Args)]
	for i := range x.Args {
		x.Args[i] = roomyExpr(x.Args[i])
	}
	return x
}

// whole is a list with its spare room, and all lists within it with theirs.
func whole(v reflect.Value) any {
	switch v.Kind() {
	case reflect.Slice:
		var out []any
		for i := range v.Cap() {
			out = append(out, whole(v.Slice(0, v.Cap()).Index(i)))
		}
		return out
	case reflect.Struct:
		var out []any
		for i := range v.NumField() {
			out = append(out, whole(v.Field(i)))
		}
		return out
	}
	return v.Interface()
}

// 18.4: what is handed in is not changed, nor is what lies behind its lists' ends.
func TestTreeIsNotChanged(t *testing.T) {
	m := maker{rand.New(rand.NewSource(1840))}
	for range 300 {
		plain := m.source()
		s := roomy(plain)
		was := whole(reflect.ValueOf(s))
		text := printed(t, s)
		if !reflect.DeepEqual(whole(reflect.ValueOf(s)), was) {
			t.Fatalf("%q: its tree was changed", text)
		}
		if other := printed(t, plain); other != text {
			t.Fatalf("is written %q, and without spare room %q", text, other)
		}
	}
	// Nor is a tree that is refused.
	for _, s := range []api.Source{
		roomy(procedure(api.Stmt{Kind: api.SOut, X: neg(api.Expr{Kind: 99})})),
		roomy(api.Source{Consts: []api.Const{{Name: strings.Repeat("n", api.MaxText), X: neg(num(1))}}}),
	} {
		was := whole(reflect.ValueOf(s))
		if _, e := source.Print(s); e == api.OK || !reflect.DeepEqual(whole(reflect.ValueOf(s)), was) {
			t.Errorf("%d: its tree was changed", e)
		}
	}
}

// 18.4: what a call answers hangs on its argument alone: whatever became of earlier answers, and whoever else calls.
func TestAnswersHangOnArgumentAlone(t *testing.T) {
	m := maker{rand.New(rand.NewSource(1841))}
	for range 100 {
		text := mustPrint(m.source())
		tokens, s := tokenized(t, text), parsed(t, text)
		for i := range tokens {
			tokens[i] = api.Token{Text: "spoilt"}
		}
		for i := range s.Consts {
			s.Consts[i].X = api.Expr{}
		}
		for i := range s.Procs {
			clear(s.Procs[i].Body)
		}
		if _, err := source.Parse(text + "if"); err == nil {
			t.Fatalf("%q and an if is a source", text)
		}
		if again := printed(t, parsed(t, text)); again != text {
			t.Fatalf("is %q, was %q", again, text)
		}
	}
	text := mustPrint(m.source())
	var wait sync.WaitGroup
	for range 8 {
		wait.Add(1)
		go func() {
			defer wait.Done()
			for range 20 {
				s, err := source.Parse(text)
				again, e := source.Print(s)
				if err != nil || e != api.OK || again != text {
					t.Errorf("is %q, %v, %d", again, err, e)
				}
			}
		}()
	}
	wait.Wait()
}
