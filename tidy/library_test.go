package tidy_test

import (
	"strconv"
	"strings"
	"testing"

	"prelude/api"
	"prelude/compile"
	"prelude/lang"
	"prelude/tidy"
)

// named is a library of programs, by the names p0, p1 and so on.
func named(programs ...api.Program) []api.Proc {
	var lib []api.Proc
	for i, p := range programs {
		lib = append(lib, api.Proc{Name: "p" + strconv.Itoa(i), Program: p})
	}
	return lib
}

// library is Library of a sound library, of which everything is asked that 20.3 promises.
func library(t testing.TB, lib []api.Proc) []api.Proc {
	t.Helper()
	got, e := tidy.Library(lib)
	if e != api.OK || len(got) != len(lib) {
		t.Fatalf("%d procedures of %d, %d", len(got), len(lib), e)
	}
	if at, e := lang.Check(got); e != api.OK {
		t.Fatalf("procedure %d is wrong by %d", at, e)
	}
	for i, p := range got {
		want, e := tidy.Tidy(lib[i].Program)
		if e != api.OK || p.Name != lib[i].Name || !samePrograms(p.Program, want) {
			t.Errorf("%d: %s, %s, want %s, %s", i, p.Name, told(p.Program), lib[i].Name, told(want))
		}
	}
	return got
}

// 20.3: libraries of none, of one, and of as many procedures as may be.
func TestLibrary(t *testing.T) {
	library(t, nil)
	library(t, []api.Proc{})
	one := library(t, []api.Proc{{Name: "only_One9", Program: api.Program{Args: 1, Code: listing(t, "arg 0, neg, neg, out, stop")}}})
	if one[0].Name != "only_One9" || told(one[0].Program) != "arg 0, out" {
		t.Errorf("%v", one)
	}
	m := newMaker(203)
	var programs []api.Program
	for i := range api.MaxProcs {
		programs = append(programs, m.program(i, i%10))
	}
	library(t, named(programs...))
	for _, text := range sources {
		lib, err := compile.Build(text)
		if err != nil {
			t.Fatal(err)
		}
		library(t, lib)
	}
	// Names are told apart, programs are not.
	same := api.Program{Code: listing(t, "push 1, push 2, add, abort")}
	for _, p := range library(t, named(same, same, same)) {
		if told(p.Program) != "push 3, abort" {
			t.Errorf("%s", told(p.Program))
		}
	}
}

// 20.3: what is not sound is lang.Check's error, the first one.
func TestLibraryNotSound(t *testing.T) {
	good := api.Program{Code: listing(t, "stop")}
	bad := api.Program{Code: listing(t, "pop")}
	many := make([]api.Program, 65)
	for _, c := range []struct {
		lib []api.Proc
		e   api.Errno
	}{
		{named(many...), api.ErrProcs},
		{named(append(many, bad)...), api.ErrProcs},
		{[]api.Proc{{Name: "", Program: good}}, api.ErrName},
		{[]api.Proc{{Name: "1x", Program: bad}}, api.ErrName},
		{[]api.Proc{{Name: strings.Repeat("a", 32), Program: good}}, api.ErrName},
		{[]api.Proc{{Name: "a", Program: good}, {Name: "a", Program: good}}, api.ErrName},
		{[]api.Proc{{Name: "a", Program: good}, {Name: "b", Program: bad}, {Name: "a", Program: good}}, api.ErrStack},
		{[]api.Proc{{Name: "a", Program: good}, {Name: "a", Program: bad}}, api.ErrName},
		{named(good, api.Program{Code: []api.Instr{{Op: 37}}}, bad), api.ErrOp},
		{named(good, bad, api.Program{Code: []api.Instr{{Op: 37}}}), api.ErrStack},
	} {
		if _, e := lang.Check(c.lib); e != c.e {
			t.Errorf("Check of %v is %d, want %d", c.lib, e, c.e)
		}
		if got, e := tidy.Library(c.lib); e != c.e || len(got) > 0 {
			t.Errorf("Library of %v is %v, %d, want %d", c.lib, got, e, c.e)
		}
	}
}

// 20.5: what Library has answered stays.
func TestLibraryAgain(t *testing.T) {
	m := newMaker(205)
	for range 100 {
		got := library(t, named(m.program(20, 5), m.program(40, 10)))
		for i, p := range library(t, got) {
			if !samePrograms(p.Program, got[i].Program) {
				t.Errorf("%s became %s", told(got[i].Program), told(p.Program))
			}
		}
	}
}
