package scout_test

import (
	"math"
	"reflect"
	"testing"

	"prelude/api"
	"prelude/compile"
	"prelude/engine"
	"prelude/scout"
)

// procedures is some procedures: their places are those of the constants behind them.
const procedures = `
proc lay(v) writes k { put k = v; }
proc wipe() writes k { del k; }
proc add(v) reads from writes to { put to = get(from) + v; }
proc move(n) reads from, to writes to, from {
    if get(from) < n { abort 1; }
    put from = get(from) - n;
    put to = get(to) + n;
    out get(from);
}
proc sly(n) { abort n; }
proc tell() reads a, b { out has(a); out get(a); out has(b); out get(b); }
proc nothing() { }
`

const (
	put = iota
	del
	add
	move
	sly
	tell
	nothing
)

// base is the library of the procedures.
func base() []api.Proc {
	lib, err := compile.Build(procedures)
	if err != nil {
		panic(err)
	}
	return lib
}

// bases is how many procedures there are.
func bases() int { return nothing + 1 }

// guarded is the library with procedures that have up to so many guards.
func guarded(t *testing.T, most int) []api.Proc {
	t.Helper()
	lib, f := scout.Library(base(), most)
	if f != api.OK {
		t.Fatal(f)
	}
	return lib
}

// oneOfAll is the smallest layout.
func oneOfAll() api.Layout { return api.Layout{Workers: 1, Hands: 1, Parts: 1, Ahead: 1} }

// layouts is a few ways to spread the work.
func layouts() []api.Layout {
	return []api.Layout{oneOfAll(), {Workers: 3, Hands: 2, Parts: 5, Ahead: 2}, {Workers: 2, Hands: 7, Parts: 16, Ahead: 16}}
}

// database is a database of a library.
func database(t *testing.T, l api.Layout, lib []api.Proc, capacity int) *engine.Engine {
	t.Helper()
	e, f := engine.New(l, lib, capacity)
	if f != api.OK {
		t.Fatal(f)
	}
	return e
}

// key is a key.
func key(table int, row int64) api.Key { return api.Key{Table: table, Row: row} }

// straight is a path without hops.
func straight(table int, row int64) api.Path { return api.Path{Key: key(table, row)} }

// path leads from a key through some tables.
func path(table int, row int64, tables ...int) api.Path {
	p := straight(table, row)
	for _, t := range tables {
		p.Hops = append(p.Hops, api.Hop{Table: t})
	}
	return p
}

// paths is a list of paths.
func paths(list ...api.Path) []api.Path { return list }

// puts is a transaction that puts a value.
func puts(k api.Key, v int64) api.Tx {
	return api.Tx{Proc: put, Args: []int64{v}, Writes: []api.Key{k}}
}

// stands lets a batch in behind which values stand at some keys, each a table, a row and a value.
func stands(t *testing.T, e *engine.Engine, list ...[3]int64) int {
	t.Helper()
	var b []api.Tx
	for _, x := range list {
		b = append(b, puts(key(int(x[0]), x[1]), x[2]))
	}
	n, err := e.Post(b)
	if err != nil {
		t.Fatal(err)
	}
	return n
}

// same asks that two things are one, where an empty list is no list.
func same(t *testing.T, what string, got, want any) {
	t.Helper()
	if !reflect.DeepEqual(bare(reflect.ValueOf(got)).Interface(), bare(reflect.ValueOf(want)).Interface()) {
		t.Fatalf("%s: %+v, want %+v", what, got, want)
	}
}

// bare is a value in which no list is empty: it is nil then.
func bare(v reflect.Value) reflect.Value {
	out := reflect.New(v.Type()).Elem()
	switch {
	case v.Kind() == reflect.Slice && v.Len() > 0:
		out.Set(reflect.MakeSlice(v.Type(), v.Len(), v.Len()))
		for i := range v.Len() {
			out.Index(i).Set(bare(v.Index(i)))
		}
	case v.Kind() == reflect.Struct:
		for i := range v.NumField() {
			out.Field(i).Set(bare(v.Field(i)))
		}
	case v.Kind() != reflect.Slice:
		out.Set(v)
	}
	return out
}

// edges is numbers at which something may go wrong.
func edges() []int {
	return []int{math.MinInt, math.MinInt + 1, -65, -1, 0, 1, 2, 15, 16, 17, 63, 64, 65, 1 << 32, math.MaxInt - 16, math.MaxInt - 1, math.MaxInt}
}
