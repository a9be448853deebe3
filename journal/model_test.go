package journal_test

import (
	"bytes"
	"fmt"
	"math/rand"
	"slices"
	"testing"

	"prelude/api"
	"prelude/codec"
	"prelude/engine"
	"prelude/journal"
)

// game is a database with a journal, and beside it what the chapter says of it: an engine that never crashes, and the journal's records one by one.
type game struct {
	r        *rand.Rand
	capacity int
	d        *journal.DB
	plain    *engine.Engine
	done     []op     // all operations that were let in, a Compact as a collect
	records  [][]byte // of the journal
	folded   int      // how many of the operations the head has
}

// newGame is a game that is not begun.
func newGame(t *testing.T, seed int64) *game {
	t.Helper()
	r := rand.New(rand.NewSource(seed))
	capacity := 6 + r.Intn(40)
	g := &game{r: r, capacity: capacity, plain: played(t, one(), capacity)}
	g.d = created(t, g.layout(), capacity)
	g.records = [][]byte{codec.Seal(head, headLoad(capacity, bank(), api.Snapshot{}))}
	return g
}

// layout is any layout.
func (g *game) layout() api.Layout {
	return api.Layout{Workers: 1 + g.r.Intn(4), Hands: 1 + g.r.Intn(4), Parts: 1 + g.r.Intn(5), Ahead: 1 + g.r.Intn(4)}
}

// tx is a call of one of the procedures, mostly a sound one.
func (g *game) tx() api.Tx {
	lib := bank()
	proc := g.r.Intn(len(lib))
	program := lib[proc].Program
	x := api.Tx{Proc: proc, Reads: g.set(program.Reads), Writes: g.set(program.Writes)}
	for range program.Args {
		x.Args = append(x.Args, int64(g.r.Intn(12)-2))
	}
	if g.r.Intn(30) == 0 {
		x.Proc = g.r.Intn(api.MaxProcs)
	}
	return x
}

// set is a set of so many keys.
func (g *game) set(n int) []api.Key {
	places := g.r.Perm(len(few()))[:n]
	slices.Sort(places)
	var set []api.Key
	for _, i := range places {
		set = append(set, few()[i])
	}
	return set
}

// batch is a batch.
func (g *game) batch() []api.Tx {
	var b []api.Tx
	for range g.r.Intn(4) {
		b = append(b, g.tx())
	}
	return b
}

// number is a batch's number, mostly of one that is there.
func (g *game) number() int { return g.r.Intn(g.plain.View().Latest+3) - 1 }

// lets notes an operation that was let in, if it was, and its record.
func (g *game) lets(in bool, o op, kind byte, load []byte) {
	if in {
		g.done = append(g.done, o)
		g.records = append(g.records, codec.Seal(kind, load))
	}
}

// operate does an operation, on both.
func (g *game) operate() (got, want string) {
	switch g.r.Intn(8) {
	case 0, 1, 2:
		b := g.batch()
		n, err := g.plain.Post(b)
		if g.r.Intn(2) == 0 {
			got = answer(g.d.Post(b))
		} else {
			got = answer(g.d.Submit(encoded(b...)))
		}
		g.lets(err == nil, posting(b...), lot, encoded(b...))
		return got, answer(n, err)
	case 3, 4:
		n := g.number()
		f := g.plain.Pin(n)
		g.lets(f == api.OK, pinning(n), pin, number(max(n, 0)))
		return fmt.Sprint("Pin", n, g.d.Pin(n)), fmt.Sprint("Pin", n, f)
	case 5:
		n := g.number()
		f := g.plain.Unpin(n)
		g.lets(f == api.OK, unpinning(n), unpin, number(max(n, 0)))
		return fmt.Sprint("Unpin", n, g.d.Unpin(n)), fmt.Sprint("Unpin", n, f)
	case 6:
		g.lets(true, collecting, collect, nil)
		return fmt.Sprint("Collect", g.d.Collect()), fmt.Sprint("Collect", g.plain.Collect())
	}
	g.lets(true, snapping, collect, nil)
	return fmt.Sprint("Snapshot", g.d.Snapshot()), fmt.Sprint("Snapshot", g.plain.Snapshot())
}

// compacts is 17.3.
func (g *game) compacts() {
	g.d.Compact()
	s := g.plain.Snapshot()
	g.done = append(g.done, collecting)
	g.folded = len(g.done)
	g.records = [][]byte{codec.Seal(head, headLoad(g.capacity, bank(), s))}
}

// crashes cuts the journal anywhere behind the head, and goes on with what is opened.
func (g *game) crashes(t *testing.T) {
	t.Helper()
	data := g.d.Bytes()
	front := len(g.records[0])
	cut := front + g.r.Intn(len(data)-front+1)
	if g.r.Intn(3) > 0 {
		cut = max(front, len(data)-g.r.Intn(20)) // mostly near the end
	}
	for len(slices.Concat(g.records...)) > cut {
		g.records = g.records[:len(g.records)-1]
	}
	g.done = g.done[:g.folded+len(g.records)-1]
	g.d = opened(t, g.layout(), data[:cut])
	g.plain = played(t, one(), g.capacity, g.done...)
}

// 17.2, 17.3, 17.6 to 17.8: whatever is done, and wherever it crashes, the journal is the records that the chapter says, and the answers are those of an engine that never crashed.
func TestModel(t *testing.T) {
	for seed := range int64(150) {
		g := newGame(t, seed)
		for turn := range 120 {
			got, want := g.operate()
			if got != want {
				t.Fatalf("seed %d, turn %d: %s, not %s", seed, turn, got, want)
			}
			for range g.r.Intn(30) {
				g.d.Step(g.r.Int())
			}
			if g.r.Intn(12) == 0 {
				g.compacts()
			}
			if g.r.Intn(10) == 0 {
				g.crashes(t)
			}
			if all := slices.Concat(g.records...); !bytes.Equal(g.d.Bytes(), all) {
				t.Fatalf("seed %d, turn %d: Bytes are\n%v\nnot\n%v", seed, turn, g.d.Bytes(), all)
			}
			if g.r.Intn(4) == 0 {
				if got, want := standing(g.d), standing(g.plain); got != want {
					t.Fatalf("seed %d, turn %d:\n%s\nnot\n%s", seed, turn, got, want)
				}
			}
		}
		if got, want := further(g.d), further(g.plain); got != want {
			t.Fatalf("seed %d:\n%s\nnot\n%s", seed, got, want)
		}
	}
}

// 17.5: bytes of any records, and any changes of a journal, are opened or refused as the chapter says, by the first that applies.
func TestAnyBytes(t *testing.T) {
	whole := written(t, one(), 12, some()...).Bytes()
	front := ends(t, whole)[0]
	r := rand.New(rand.NewSource(17))
	kinds := []byte{head, lot, pin, unpin, collect, 88}
	for range 3000 {
		data := bytes.Clone(whole[:front])
		var want error
		e := played(t, one(), 12)
		for range r.Intn(6) {
			kind := kinds[r.Intn(len(kinds))]
			load := [][]byte{nil, {0}, {1}, {2}, {1, 1}, {128}, encoded(put(1, 1)), encoded(put(1, 1), bump(2)), encoded(api.Tx{Proc: 40})}[r.Intn(9)]
			f := redone(e, kind, load)
			if f != api.OK && want == nil {
				want = &api.ByteError{At: len(data), Err: f}
			}
			data = append(data, codec.Seal(kind, load)...)
		}
		size := len(data)
		data = append(data, make([]byte, r.Intn(9))...)
		d, err := journal.Open(one(), data)
		if fmt.Sprint(err) != fmt.Sprint(want) || (d == nil) != (err != nil) {
			t.Fatalf("%v: %v, %v, not %v", data[front:], d, err, want)
		}
		if err == nil && (!bytes.Equal(d.Bytes(), data[:size]) || further(d) != further(e)) {
			t.Fatalf("%v: another database", data[front:])
		}
	}
}

// redone is what the chapter says of a record behind the head, whose operation an engine does.
func redone(e *engine.Engine, kind byte, load []byte) api.Errno {
	n, one := 0, len(load) == 1 && load[0] < 128
	if one {
		n = int(load[0])
	}
	ok := false
	switch {
	case kind == lot:
		_, err := e.Submit(load)
		ok = err == nil
	case kind == pin && one:
		ok = e.Pin(n) == api.OK
	case kind == unpin && one:
		ok = e.Unpin(n) == api.OK
	case kind == collect && len(load) == 0:
		e.Collect()
		ok = true
	default:
		return api.ErrRecord
	}
	if !ok {
		return api.ErrReplay
	}
	return api.OK
}

// R1: whatever the bytes are, Open and Scan end without a panic, and tell the same of what is torn.
func TestAnyNoise(t *testing.T) {
	whole := written(t, one(), 12, some()...)
	whole.Compact()
	posts(t, whole, 6, put(1, 1))
	data := whole.Bytes()
	r := rand.New(rand.NewSource(18))
	for range 4000 {
		load := headLoad(8, bank()[:1], whole.Snapshot())
		load[4+r.Intn(len(load)-4)] = byte(r.Intn(256)) // behind the mark
		noise := codec.Seal(head, load)
		if d, err := journal.Open(one(), noise); (d == nil) == (err == nil) {
			t.Fatalf("%v, %v", d, err)
		} else if d != nil && !bytes.Equal(d.Bytes(), noise) {
			t.Fatal("Bytes are others")
		}
		other := bytes.Clone(data[:r.Intn(len(data)+1)])
		for range r.Intn(3) {
			if len(other) > 0 {
				other[r.Intn(len(other))] = byte(r.Intn(256))
			}
		}
		n, size, err := journal.Scan(other)
		if size > len(other) || n > 2 || (err == nil) != (size == len(other)) {
			t.Fatalf("%d, %d, %v", n, size, err)
		}
		if d, _ := journal.Open(one(), other); d != nil && !bytes.Equal(d.Bytes(), other[:size]) {
			t.Fatal("Bytes are others")
		}
	}
}
