package compile_test

import (
	"errors"
	"reflect"
	"slices"
	"sync"
	"testing"
	"unsafe"

	"prelude/api"
	"prelude/compile"
	"prelude/source"
)

// stretch is a piece of memory.
type stretch struct {
	from, to uintptr
}

// stretches is the memory of all lists in a value, spare room behind their ends too.
func stretches(v reflect.Value) []stretch {
	var out []stretch
	switch v.Kind() {
	case reflect.Slice:
		if v.Cap() > 0 {
			out = append(out, stretch{v.Pointer(), v.Pointer() + uintptr(v.Cap())*v.Type().Elem().Size()})
		}
		for i := range v.Len() {
			out = append(out, stretches(v.Index(i))...)
		}
	case reflect.Struct:
		for i := range v.NumField() {
			out = append(out, stretches(v.Field(i))...)
		}
	}
	return out
}

// R4: what is answered is new memory: no two lists of two answers share any.
func TestAnswersAreNewMemory(t *testing.T) {
	m := newMaker(184, 0)
	for range 500 {
		s := m.source()
		one, err := compile.Compile(s)
		if err != nil {
			continue
		}
		all := slices.Concat(stretches(reflect.ValueOf(one)), stretches(reflect.ValueOf(compiled(t, s))))
		slices.SortFunc(all, func(a, b stretch) int {
			if a.from < b.from {
				return -1
			}
			return 1
		})
		for i := 1; i < len(all); i++ {
			if all[i].from < all[i-1].to {
				t.Fatalf("%v: two lists share memory", s)
			}
		}
	}
}

// R4: no procedure's name is a piece of what was handed in.
func TestNamesAreNotKept(t *testing.T) {
	text := "proc move(amount) reads from { out amount; }"
	s := parsed(t, text)
	s.Procs[0].Name = text[5:9]
	for _, lib := range [][]api.Proc{built(t, text), compiled(t, s)} {
		first := uintptr(unsafe.Pointer(unsafe.StringData(text)))
		name := uintptr(unsafe.Pointer(unsafe.StringData(lib[0].Name)))
		if first <= name && name < first+uintptr(len(text)) || lib[0].Name != "move" {
			t.Errorf("%q is a piece of what was handed in", lib[0].Name)
		}
	}
}

// roomy is a copy of a tree whose lists have spare room, in which something stands.
func roomy(s api.Source) api.Source {
	out := api.Source{
		Consts: append(s.Consts[:len(s.Consts):len(s.Consts)], api.Const{Name: "spare"})[:len(s.Consts)],
		Procs:  append(s.Procs[:len(s.Procs):len(s.Procs)], api.Define{Name: "spare"})[:len(s.Procs)],
	}
	for i := range out.Consts {
		out.Consts[i].X = roomyExpr(out.Consts[i].X)
	}
	for i := range out.Procs {
		d := &out.Procs[i]
		for _, list := range []*[]api.Name{&d.Args, &d.Reads, &d.Writes} {
			*list = append((*list)[:len(*list):len(*list)], api.Name{Text: "spare"})[:len(*list)]
		}
		d.Body = roomyStmts(d.Body)
	}
	return out
}

func roomyStmts(stmts []api.Stmt) []api.Stmt {
	out := append(stmts[:len(stmts):len(stmts)], api.Stmt{Kind: 77, Name: "spare"})[:len(stmts)]
	for i := range out {
		s := &out[i]
		s.X, s.Y, s.Body, s.Else = roomyExpr(s.X), roomyExpr(s.Y), roomyStmts(s.Body), roomyStmts(s.Else)
	}
	return out
}

func roomyExpr(x api.Expr) api.Expr {
	x.Args = append(x.Args[:len(x.Args):len(x.Args)], api.Expr{Kind: 77, Name: "spare"})[:len(x.Args)]
	for i := range x.Args {
		x.Args[i] = roomyExpr(x.Args[i])
	}
	return x
}

// whole is a list with its spare room, and all lists within it with theirs.
func whole(v reflect.Value) any {
	switch v.Kind() {
	case reflect.Slice:
		var out []any
		for i := range v.Cap() {
			out = append(out, whole(v.Slice(0, v.Cap()).Index(i)))
		}
		return out
	case reflect.Struct:
		var out []any
		for i := range v.NumField() {
			out = append(out, whole(v.Field(i)))
		}
		return out
	}
	return v.Interface()
}

// R4: what is handed in is not changed, nor is what lies behind its lists' ends; and that is not looked at.
func TestTreeIsNotChanged(t *testing.T) {
	for seed, wrong := range []int{0, 40} {
		m := newMaker(int64(1840+seed), wrong)
		for range 200 {
			plain := m.source()
			s := roomy(plain)
			was := whole(reflect.ValueOf(s))
			lib, err := compile.Compile(s)
			if !reflect.DeepEqual(whole(reflect.ValueOf(s)), was) {
				t.Fatalf("%v was changed", plain)
			}
			want, no := compile.Compile(plain)
			if !sameLibrary(lib, want) || !reflect.DeepEqual(err, no) {
				t.Fatalf("%v is %v, %v, and without spare room %v, %v", plain, lib, err, want, no)
			}
		}
	}
}

// R4: what is answered does not hang on what becomes later of what was handed in, or of other answers.
func TestAnswersStay(t *testing.T) {
	m := newMaker(1845, 0)
	for range 200 {
		text, e := source.Print(m.source())
		want, err := compile.Build(text)
		if e != api.OK || err != nil {
			continue
		}
		s := parsed(t, text)
		lib, spoilt := compiled(t, s), compiled(t, s)
		for i := range s.Procs {
			s.Procs[i].Name = "spoilt"
			clear(s.Procs[i].Body)
		}
		for i := range spoilt {
			code := spoilt[i].Program.Code
			clear(code[:cap(code)])
			spoilt[i] = api.Proc{}
		}
		if !sameLibrary(lib, want) {
			t.Fatalf("%q is %v, was %v", text, lib, want)
		}
	}
	// An error is one's own, too.
	_, one := compile.Build("proc p() { out x; }")
	var pos *api.PosError
	if errors.As(one, &pos) {
		*pos = api.PosError{Line: 9, Col: 9, Err: api.ErrSort}
	}
	refused(t, "proc p() { out x; }", 16, api.ErrUnknown)
}

// What a call answers hangs on its argument alone, whoever else calls.
func TestAnswersHangOnArgumentAlone(t *testing.T) {
	m := newMaker(1846, 30)
	var sources []api.Source
	for range 40 {
		sources = append(sources, m.source())
	}
	var wait sync.WaitGroup
	answers := make([][]any, 8)
	for i := range answers {
		wait.Go(func() {
			for _, s := range sources {
				lib, err := compile.Compile(s)
				answers[i] = append(answers[i], lib, err)
			}
		})
	}
	wait.Wait()
	for i := range answers {
		if !reflect.DeepEqual(answers[i], answers[0]) {
			t.Errorf("%d is told otherwise", i)
		}
	}
}
