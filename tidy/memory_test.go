package tidy_test

import (
	"cmp"
	"reflect"
	"slices"
	"testing"
	"unsafe"

	"prelude/api"
	"prelude/tidy"
)

// stretch is a piece of memory.
type stretch struct {
	from, to uintptr
}

// stretches is the memory of all lists in a value, spare room behind their ends too.
func stretches(v reflect.Value) []stretch {
	var out []stretch
	switch v.Kind() {
	case reflect.Slice:
		if v.Cap() > 0 {
			out = append(out, stretch{v.Pointer(), v.Pointer() + uintptr(v.Cap())*v.Type().Elem().Size()})
		}
		for i := range v.Len() {
			out = append(out, stretches(v.Index(i))...)
		}
	case reflect.Struct:
		for i := range v.NumField() {
			out = append(out, stretches(v.Field(i))...)
		}
	}
	return out
}

// apart asks that no two lists of some values share memory.
func apart(t *testing.T, values ...any) {
	t.Helper()
	var all []stretch
	for _, v := range values {
		all = append(all, stretches(reflect.ValueOf(v))...)
	}
	slices.SortFunc(all, func(a, b stretch) int { return cmp.Compare(a.from, b.from) })
	for i := 1; i < len(all); i++ {
		if all[i].from < all[i-1].to {
			t.Fatalf("two lists of %v share memory", values)
		}
	}
}

// roomy is a program whose code has spare room, in which something stands.
func roomy(p api.Program) api.Program {
	p.Code = append(p.Code[:len(p.Code):len(p.Code)], api.Instr{Op: api.INeg}, api.Instr{Op: 99, A: 99})[:len(p.Code)]
	return p
}

// whole is a code with its spare room.
func whole(p api.Program) []api.Instr { return slices.Clone(p.Code[:cap(p.Code)]) }

// 20.4: what is answered is new memory, of programs that are tidy too.
func TestAnswersAreNewMemory(t *testing.T) {
	m := newMaker(204)
	for i := range 600 {
		p := m.program(30, i%10)
		q, _ := tidy.Tidy(p)
		again, _ := tidy.Tidy(p)
		of, _ := tidy.Tidy(q)
		apart(t, p, q, again, of, rough(t, p), rough(t, p))
		lib := named(p, q, p, roomy(p))
		one, _ := tidy.Library(lib)
		two, _ := tidy.Library(lib)
		none, _ := tidy.Library(one)
		apart(t, one, two, none)
		apart(t, p, q, one)
		apart(t, lib[3].Program, one, two)
	}
}

// 20.4: what is handed in is not changed, nor is what lies behind its lists' ends; and that is not looked at.
func TestNothingIsChanged(t *testing.T) {
	m := newMaker(2040)
	for i := range 600 {
		plain := m.program(30, i%10)
		p := roomy(plain)
		was := whole(p)
		q, e := tidy.Tidy(p)
		places := rough(t, p)
		lib := append(named(p, p), api.Proc{Name: "spare", Program: p})[:2]
		got, f := tidy.Library(lib)
		if !slices.Equal(whole(p), was) || lib[0].Name != "p0" || lib[:3][2].Name != "spare" || !slices.Equal(whole(lib[1].Program), was) {
			t.Fatalf("%s was changed", told(plain))
		}
		want, _ := tidy.Tidy(plain)
		if e != api.OK || f != api.OK || !samePrograms(q, want) || !samePrograms(got[0].Program, want) || !slices.Equal(places, roughPlaces(plain)) {
			t.Fatalf("%s is another thing with spare room behind it", told(plain))
		}
	}
	// Of what is refused nothing is changed either.
	p := roomy(api.Program{Code: listing(t, "push 1, push 2, add, pop, pop")})
	was := whole(p)
	_, e := tidy.Tidy(p)
	_, f := tidy.Library(named(p))
	if e != api.ErrStack || f != api.ErrStack || !slices.Equal(whole(p), was) {
		t.Errorf("%d, %d, %v", e, f, p)
	}
}

// 20.4: what is answered does not hang on what becomes later of what was handed in, or of other answers.
func TestAnswersStay(t *testing.T) {
	m := newMaker(2041)
	for i := range 300 {
		p := m.program(30, i%10)
		want, _ := tidy.Tidy(p)
		want.Code = slices.Clone(want.Code)
		lib := named(p, want)
		q, _ := tidy.Tidy(p)
		spoilt, _ := tidy.Tidy(p)
		got, _ := tidy.Library(lib)
		clear(spoilt.Code[:cap(spoilt.Code)])
		clear(p.Code[:cap(p.Code)])
		clear(lib)
		if !samePrograms(q, want) || !samePrograms(got[0].Program, want) || got[1].Name != "p1" {
			t.Fatalf("%s, %v, want %s", told(q), got, told(want))
		}
	}
}

// 20.4: no procedure's name is a piece of what was handed in.
func TestNamesAreNotKept(t *testing.T) {
	name := string([]byte("transfer"))
	got, e := tidy.Library([]api.Proc{{Name: name}})
	if e != api.OK || got[0].Name != "transfer" || unsafe.StringData(got[0].Name) == unsafe.StringData(name) {
		t.Errorf("%d, %v", e, got)
	}
}
