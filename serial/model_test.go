package serial_test

import (
	"fmt"
	"maps"
	"math/rand"
	"slices"
	"testing"

	"prelude/api"
	"prelude/keys"
	"prelude/serial"
	"prelude/vm"
)

// model is the chapter's words taken by the letter: a whole map for each batch.
type model struct {
	lib      []api.Proc
	maps     []map[api.Key]int64
	outcomes [][]api.Outcome // those of batch 0 are none
	steps    []int
}

// modelOf is a model without rows.
func modelOf(lib []api.Proc) *model {
	return &model{lib: lib, maps: []map[api.Key]int64{{}}, outcomes: [][]api.Outcome{nil}, steps: []int{0}}
}

// apply runs a sound batch.
func (m *model) apply(t *testing.T, b []api.Tx) {
	t.Helper()
	values := maps.Clone(m.maps[len(m.maps)-1])
	var outcomes []api.Outcome
	steps := 0
	for _, tx := range b {
		var cells []api.Cell
		for _, k := range tx.Reads {
			v, is := values[k]
			cells = append(cells, api.Cell{Is: is, Value: v})
		}
		effect, e := vm.Run(m.lib[tx.Proc].Program, tx.Args, cells)
		if e != api.OK {
			t.Fatalf("%v: %d", tx, e)
		}
		for i, k := range tx.Writes {
			switch {
			case effect.Commit && effect.Puts[i].Kind == api.Set:
				values[k] = effect.Puts[i].Value
			case effect.Commit && effect.Puts[i].Kind == api.Gone:
				delete(values, k)
			}
		}
		outcomes = append(outcomes, api.Outcome{Commit: effect.Commit, Code: effect.Code, User: effect.User, Out: effect.Out, Read: cells})
		steps += effect.Steps
	}
	m.maps, m.outcomes, m.steps = append(m.maps, values), append(m.outcomes, outcomes), append(m.steps, steps)
}

// rows is what stands behind a batch.
func (m *model) rows(n int) []api.Row {
	var list []api.Row
	for k, v := range m.maps[n] {
		list = append(list, api.Row{Key: k, Value: v})
	}
	slices.SortFunc(list, func(a, b api.Row) int { return keys.Compare(a.Key, b.Key) })
	return list
}

// agrees holds all that a database tells of all batches against the model.
func (m *model) agrees(t *testing.T, d *serial.DB, all []api.Key) {
	t.Helper()
	if d.Latest() != len(m.maps)-1 {
		t.Fatalf("Latest() = %d, not %d", d.Latest(), len(m.maps)-1)
	}
	for n := range m.maps {
		if rows, e := d.Rows(n); !slices.Equal(rows, m.rows(n)) || e != api.OK {
			t.Fatalf("Rows(%d): %v, %d, not %v", n, rows, e, m.rows(n))
		}
		for _, k := range all {
			v, is := m.maps[n][k]
			at(t, d, n, k, api.Cell{Is: is, Value: v}, api.OK)
		}
		if n == 0 {
			continue
		}
		steps(t, d, n, m.steps[n], api.OK)
		for i, want := range m.outcomes[n] {
			if o, e := d.Outcome(n, i); !sameOutcome(o, want) || e != api.OK {
				t.Fatalf("Outcome(%d, %d): %v, %d, not %v", n, i, o, e, want)
			}
		}
		if _, e := d.Outcome(n, len(m.outcomes[n])); e != api.ErrIndex {
			t.Fatalf("Outcome(%d, %d): %d", n, len(m.outcomes[n]), e)
		}
	}
}

// few is a few keys, at which transactions meet often.
func few() []api.Key {
	return []api.Key{{Row: -1}, {Row: 0}, {Row: 1}, {Row: 7}, {Table: 1, Row: -1}, {Table: 1}, {Table: 65535, Row: 1}}
}

// anySet is a set of n of the keys.
func anySet(r *rand.Rand, all []api.Key, n int) []api.Key {
	var set []api.Key
	for _, i := range r.Perm(len(all))[:n] {
		set = append(set, all[i])
	}
	set, _ = keys.Sort(set)
	return set
}

// anyTx is a sound transaction that reads and writes some of the keys; small amounts, so that some fail and some don't.
func anyTx(r *rand.Rand, lib []api.Proc, all []api.Key) api.Tx {
	tx := api.Tx{Proc: r.Intn(len(lib))}
	p := lib[tx.Proc].Program
	for range p.Args {
		tx.Args = append(tx.Args, int64(r.Intn(7)-2))
	}
	tx.Reads, tx.Writes = anySet(r, all, p.Reads), anySet(r, all, p.Writes)
	if p.Reads == p.Writes && r.Intn(2) == 0 {
		tx.Writes = slices.Clone(tx.Reads)
	}
	return tx
}

// anyBatch is a sound batch, an empty one now and then.
func anyBatch(r *rand.Rand, lib []api.Proc, all []api.Key) []api.Tx {
	var b []api.Tx
	for range r.Intn(7) {
		b = append(b, anyTx(r, lib, all))
	}
	return b
}

// 8.2 to 8.7: many batches do and tell what the model says, of every batch and to the end; those that are refused change nothing.
func TestModel(t *testing.T) {
	lib := bank(t)
	for seed := range int64(60) {
		r := rand.New(rand.NewSource(seed))
		d, m := made(t), modelOf(lib)
		failed, went := 0, 0
		for range 40 {
			b := anyBatch(r, lib, few())
			if r.Intn(5) == 0 {
				d.Apply(append(slices.Clone(b), api.Tx{Proc: -1}))
			}
			o := ran(t, d, b...)
			m.apply(t, b)
			if !same(o, m.outcomes[len(m.outcomes)-1]) {
				t.Fatalf("seed %d: Apply(%v): %v, not %v", seed, b, o, m.outcomes[len(m.outcomes)-1])
			}
			for _, x := range o {
				if x.Commit {
					went++
				} else {
					failed++
				}
			}
			m.agrees(t, d, few())
		}
		if went < 20 || failed < 10 {
			t.Errorf("seed %d: %d have committed, %d have not: that shows little", seed, went, failed)
		}
	}
}

// 8.7: a key in very many batches, of which not each changes it, is told right at each of them.
func TestLongPast(t *testing.T) {
	r := rand.New(rand.NewSource(1))
	lib := bank(t)
	d, m := made(t), modelOf(lib)
	for range 1500 {
		b := []api.Tx{put(int64(r.Intn(2)), int64(r.Intn(3))), call(pDrop, int64(r.Intn(5)))}[:r.Intn(3)]
		ran(t, d, b...)
		m.apply(t, b)
	}
	m.agrees(t, d, keysOf(0, 1, 2, 3))
}

// start is a database in some state, the same for the same seed.
func start(t *testing.T, lib []api.Proc, seed int64) *serial.DB {
	t.Helper()
	r := rand.New(rand.NewSource(seed))
	d := madeOf(t, lib)
	for range 4 {
		ran(t, d, anyBatch(r, lib, few())...)
	}
	return d
}

// latestRows is what stands behind the latest batch, as text.
func latestRows(t *testing.T, d *serial.DB) string {
	t.Helper()
	rows, e := d.Rows(d.Latest())
	if e != api.OK {
		t.Fatal(e)
	}
	return fmt.Sprint(rows)
}

// 8.8: one that does not commit leaves every key as it was; and a key that no transaction declares in Writes has the same cell behind the batch as ahead of it.
func TestLeavesOthers(t *testing.T) {
	lib := bank(t)
	for seed := range int64(200) {
		r := rand.New(rand.NewSource(-seed - 1))
		d := start(t, lib, seed)
		tx := anyTx(r, lib, few())
		before := latestRows(t, d)
		if o := ran(t, d, tx); !o[0].Commit && latestRows(t, d) != before {
			t.Fatalf("%v fails, and %s became %s", tx, before, latestRows(t, d))
		}
		b := anyBatch(r, lib, few())
		ran(t, d, b...)
		for _, k := range few() {
			declared := slices.ContainsFunc(b, func(tx api.Tx) bool { return slices.Contains(tx.Writes, k) })
			was, _ := d.At(d.Latest()-1, k)
			if is, _ := d.At(d.Latest(), k); !declared && is != was {
				t.Fatalf("%v at %v became %v, by %v", was, k, is, b)
			}
		}
	}
}

// 8.9: the Read of a transaction are the cells that were there ahead of it, whatever it puts there itself.
func TestOwnPutsAreNotRead(t *testing.T) {
	lib := bank(t)
	for seed := range int64(200) {
		r := rand.New(rand.NewSource(-seed - 1))
		d := start(t, lib, seed)
		tx := anyTx(r, lib, few())
		var ahead []api.Cell
		for _, k := range tx.Reads {
			c, _ := d.At(d.Latest(), k)
			ahead = append(ahead, c)
		}
		if o := ran(t, d, tx); !slices.Equal(o[0].Read, ahead) {
			t.Fatalf("%v has read %v, not %v", tx, o[0].Read, ahead)
		}
	}
}

// 8.9: a batch does the same as its transactions one by one, with empty batches between them.
func TestOneByOne(t *testing.T) {
	lib := bank(t)
	for seed := range int64(100) {
		r := rand.New(rand.NewSource(-seed - 1))
		one, many := start(t, lib, seed), start(t, lib, seed)
		for range 5 {
			b := anyBatch(r, lib, few())
			want := ran(t, one, b...)
			var got []api.Outcome
			for _, tx := range b {
				got = append(got, ran(t, many, tx)...)
				before := latestRows(t, many)
				if ran(t, many); latestRows(t, many) != before {
					t.Fatalf("an empty batch has made %s of %s", latestRows(t, many), before)
				}
			}
			if !same(got, want) || latestRows(t, one) != latestRows(t, many) {
				t.Fatalf("%v: %v and %s, one by one %v and %s", b, want, latestRows(t, one), got, latestRows(t, many))
			}
		}
	}
}

// meets tells whether one transaction declares in Writes a key that the other one declares at all.
func meets(a, b api.Tx) bool {
	touches := func(writes []api.Key, tx api.Tx) bool {
		return slices.ContainsFunc(writes, func(k api.Key) bool { return slices.Contains(tx.Reads, k) || slices.Contains(tx.Writes, k) })
	}
	return touches(a.Writes, b) || touches(b.Writes, a)
}

// 8.10: two that do not meet have the same outcomes in either order, and leave the same.
func TestEitherOrder(t *testing.T) {
	lib := bank(t)
	pairs := 0
	for seed := range int64(400) {
		r := rand.New(rand.NewSource(-seed - 1))
		a, b := anyTx(r, lib, few()), anyTx(r, lib, few())
		if meets(a, b) {
			continue
		}
		pairs++
		before, behind := anyBatch(r, lib, few()), anyBatch(r, lib, few())
		one, other := start(t, lib, seed), start(t, lib, seed)
		first := ran(t, one, slices.Concat(before, []api.Tx{a, b}, behind)...)
		second := ran(t, other, slices.Concat(before, []api.Tx{b, a}, behind)...)
		n := len(before)
		second[n], second[n+1] = second[n+1], second[n]
		if !same(first, second) || latestRows(t, one) != latestRows(t, other) {
			t.Fatalf("%v and %v: %v and %s, in the other order %v and %s", a, b, first, latestRows(t, one), second, latestRows(t, other))
		}
	}
	if pairs < 100 {
		t.Errorf("%d pairs show little", pairs)
	}
}
