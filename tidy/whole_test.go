package tidy_test

import (
	"math"
	"reflect"
	"testing"

	"prelude/api"
	"prelude/crew"
	"prelude/engine"
	"prelude/serial"
	"prelude/tidy"
)

// txs is any batch for a library.
func (m *maker) txs(lib []api.Proc) []api.Tx {
	var list []api.Tx
	for range m.Intn(5) {
		n := m.Intn(len(lib))
		p := lib[n].Program
		x := api.Tx{Proc: n}
		for range p.Args {
			x.Args = append(x.Args, m.number())
		}
		x.Reads, x.Writes = m.set(p.Reads), m.set(p.Writes)
		list = append(list, x)
	}
	return list
}

// set is any set of so many keys, of a few.
func (m *maker) set(size int) []api.Key {
	var set []api.Key
	row := int64(0)
	for range size {
		row += int64(1 + m.Intn(2))
		set = append(set, api.Key{Row: row})
	}
	return set
}

// libraryAndLog is any library, and some batches for it.
func (m *maker) libraryAndLog() ([]api.Proc, [][]api.Tx) {
	var programs []api.Program
	for i := range 6 {
		programs = append(programs, m.program(10+m.Intn(20), i))
	}
	lib := named(programs...)
	var log [][]api.Tx
	for range 12 {
		log = append(log, m.txs(lib))
	}
	return lib, log
}

// 20.6: the plain database: the same outcomes, and the same stands behind each batch; only the steps are fewer.
func TestSerial(t *testing.T) {
	m := newMaker(206)
	fewer, rows := 0, 0
	for range 150 {
		lib, log := m.libraryAndLog()
		d, e := serial.New(lib)
		q, f := serial.New(library(t, lib))
		if e != api.OK || f != api.OK {
			t.Fatal(e, f)
		}
		for i, b := range log {
			want, err := d.Apply(b)
			got, no := q.Apply(b)
			if err != nil || no != nil || !reflect.DeepEqual(got, want) {
				t.Fatalf("%v, %v, want %v, %v", got, no, want, err)
			}
			there, _ := d.Rows(i + 1)
			if here, _ := q.Rows(i + 1); !reflect.DeepEqual(here, there) {
				t.Fatalf("%v stands there, and without tidying %v", here, there)
			}
			rows += len(there)
			long, _ := d.Steps(i + 1)
			short, _ := q.Steps(i + 1)
			if short > long {
				t.Fatalf("%d steps, and without tidying %d", short, long)
			}
			fewer += long - short
		}
	}
	if fewer < 5000 || rows < 1000 {
		t.Errorf("%d steps fewer, %d rows", fewer, rows)
	}
}

// play lets batches into an engine with any steps between them, and comes to rest.
func (m *maker) play(t *testing.T, e *engine.Engine, log [][]api.Tx) {
	t.Helper()
	for i, b := range log {
		if _, err := e.Post(b); err != nil {
			t.Fatal(err)
		}
		e.Pin(i + 1)
		for range m.Intn(30) {
			e.Step(m.Int())
		}
	}
	e.Drain()
}

// 20.6: the database: the same outcomes, and the same stands behind each batch.
func TestEngine(t *testing.T) {
	m := newMaker(2060)
	layout := api.Layout{Workers: 2, Hands: 3, Parts: 4, Ahead: 3}
	low, high := api.Key{Row: math.MinInt64}, api.Key{Table: api.MaxTable, Row: math.MaxInt64}
	for range 60 {
		lib, log := m.libraryAndLog()
		d, e := engine.New(layout, lib, 1000)
		q, f := engine.New(layout, library(t, lib), 1000)
		if e != api.OK || f != api.OK {
			t.Fatal(e, f)
		}
		m.play(t, d, log)
		m.play(t, q, log)
		for n, b := range log {
			want, _ := d.Scan(n+1, low, high)
			if got, e := q.Scan(n+1, low, high); e != api.OK || !reflect.DeepEqual(got, want) {
				t.Fatalf("%v stands behind %d, %d, and without tidying %v", got, n+1, e, want)
			}
			for i := range b {
				want, _ := d.Outcome(n+1, i)
				if got, e := q.Outcome(n+1, i); e != api.OK || !reflect.DeepEqual(got, want) {
					t.Fatalf("%v, %d, want %v", got, e, want)
				}
			}
		}
		if q.View().Steps > d.View().Steps {
			t.Fatalf("%d steps, and without tidying %d", q.View().Steps, d.View().Steps)
		}
		if !reflect.DeepEqual(d.Snapshot(), q.Snapshot()) {
			t.Fatal("their snapshots differ")
		}
	}
}

// 20.6: the same by goroutines.
func TestCrew(t *testing.T) {
	m := newMaker(2066)
	layout := api.Layout{Workers: 2, Hands: 3, Parts: 4, Ahead: 3}
	for range 40 {
		lib, log := m.libraryAndLog()
		want, there, err := crew.Run(layout, lib, log)
		got, here, no := crew.Run(layout, library(t, lib), log)
		if err != nil || no != nil || !reflect.DeepEqual(got, want) || !reflect.DeepEqual(here, there) {
			t.Fatalf("%v, %v, want %v, %v", got, here, want, there)
		}
	}
}

// 20.2, 20.3: the library of the whole's ten examples is tidy.
func TestBank(t *testing.T) {
	move := api.Program{Args: 1, Reads: 2, Writes: 2, Code: listing(t, "get 0, arg 0, lt, zero 6, push 1, abort, get 0, arg 0, sub, put 0, get 1, arg 0, add, put 1")}
	put := api.Program{Args: 1, Writes: 1, Code: listing(t, "arg 0, put 0")}
	stays(t, move)
	stays(t, put)
	got, e := tidy.Library([]api.Proc{{Name: "move", Program: move}, {Name: "put", Program: put}})
	if e != api.OK || got[0].Name != "move" || got[1].Name != "put" {
		t.Errorf("%v, %d", got, e)
	}
}
