package batch_test

import (
	"bytes"
	"slices"
	"testing"

	"prelude/api"
	"prelude/batch"
)

// roomy is a list with spare room behind its end, that holds marks.
func roomy[E any](list []E, mark E) []E {
	return slices.Concat(list, slices.Repeat([]E{mark}, 8))[:len(list)]
}

// marked is a batch all of whose lists have spare room behind their ends.
func marked(b []api.Tx) []api.Tx {
	var own []api.Tx
	for _, tx := range b {
		tx.Args = roomy(tx.Args, 77)
		tx.Reads = roomy(tx.Reads, api.Key{Table: 7, Row: 77})
		tx.Writes = roomy(tx.Writes, api.Key{Table: 8, Row: 88})
		own = append(own, tx)
	}
	return roomy(own, api.Tx{Proc: 99})
}

// whole is a batch with what lies in the spare room of its lists, in memory of its own.
func whole(b []api.Tx) []api.Tx {
	own := slices.Clone(b[:cap(b)])
	for i, tx := range own {
		own[i].Args = slices.Clone(tx.Args[:cap(tx.Args)])
		own[i].Reads = slices.Clone(tx.Reads[:cap(tx.Reads)])
		own[i].Writes = slices.Clone(tx.Writes[:cap(tx.Writes)])
	}
	return own
}

// spoil writes over a list, and over the spare room behind its end.
func spoil[E any](list []E, with E) {
	list = list[:cap(list)]
	for i := range list {
		list[i] = with
	}
}

// spoilBatch writes over a batch and all lists in it.
func spoilBatch(b []api.Tx) {
	for _, tx := range b {
		spoil(tx.Args, -1)
		spoil(tx.Reads, api.Key{Table: -1})
		spoil(tx.Writes, api.Key{Table: -1})
	}
	spoil(b, api.Tx{Proc: -1})
}

// several is a batch of several transactions.
func several() []api.Tx {
	return []api.Tx{put(10, 1), move(4), {Proc: 1, Args: []int64{3}, Writes: rows(9)}}
}

// 6.6: what is handed in is not changed.
func TestLeavesInput(t *testing.T) {
	b := marked(several())
	before := whole(b)
	lib := roomy(bank(), api.Proc{Name: "mark"})
	batch.Check(lib, b)
	batch.Weight(b)
	batch.Writes(b)
	data, _ := batch.Encode(b)
	if !same(whole(b), before) {
		t.Errorf("%v became %v", before, whole(b))
	}
	in := roomy(data, 200)
	old := slices.Clone(in[:cap(in)])
	batch.Decode(in)
	batch.Accept(lib, in)
	if !bytes.Equal(in[:cap(in)], old) {
		t.Errorf("%v became %v", old, in[:cap(in)])
	}
	batch.Decode(in[:len(in)-1])
	batch.Decode(in[:len(in)+1])
	if !bytes.Equal(in[:cap(in)], old) || lib[:3][2].Name != "mark" || !slices.EqualFunc(lib, bank(), func(p, q api.Proc) bool { return p.Name == q.Name }) {
		t.Errorf("%v became %v, or %v changed", old, in[:cap(in)], lib[:3])
	}
}

// 6.6: what is answered is new memory, the lists within it too, and nothing is kept.
func TestNewMemory(t *testing.T) {
	b := marked(several())
	sets := batch.Writes(b)
	data, _ := batch.Encode(b)
	other, _ := batch.Encode(b)
	spoil(other, 9)
	spoilBatch(b)
	if !slices.EqualFunc(sets, several(), func(set []api.Key, tx api.Tx) bool { return slices.Equal(set, tx.Writes) }) {
		t.Errorf("Writes shares memory with the batch: %v", sets)
	}
	stands(t, several(), data)

	in := slices.Clone(data)
	got, _, _ := batch.Decode(in)
	second, _, _ := batch.Decode(in)
	third, err := batch.Accept(bank(), in)
	spoil(in, 9)
	spoilBatch(second)
	if !same(got, several()) || err != nil || !same(third, several()) {
		t.Errorf("an answer shares memory: %v, %v", got, third)
	}
	stands(t, several(), data)
}

// R4: no two lists of one answer share memory.
func TestListsApart(t *testing.T) {
	b := []api.Tx{move(4), {}, {Args: []int64{5}, Reads: rows(1, 2), Writes: rows(1, 2)}, {Writes: rows(3)}}
	data, _ := batch.Encode(b)
	for i := range b {
		got, _, _ := batch.Decode(data)
		for list := range 3 {
			want := slices.Clone(b)
			switch list {
			case 0:
				spoil(got[i].Args, -1)
				want[i].Args = slices.Repeat([]int64{-1}, len(b[i].Args))
			case 1:
				spoil(got[i].Reads, api.Key{Table: -1})
				want[i].Reads = slices.Repeat([]api.Key{{Table: -1}}, len(b[i].Reads))
			case 2:
				spoil(got[i].Writes, api.Key{Table: -1})
				want[i].Writes = slices.Repeat([]api.Key{{Table: -1}}, len(b[i].Writes))
			}
			if !same(got, want) {
				t.Errorf("list %d of transaction %d is shared: %v", list, i, got)
			}
			got, _, _ = batch.Decode(data)
		}
		sets := batch.Writes(b)
		spoil(sets[i], api.Key{Table: -1})
		for j, set := range sets {
			if j != i && !slices.Equal(set, b[j].Writes) {
				t.Errorf("set %d is shared with set %d", i, j)
			}
		}
	}
	// A batch whose transactions share their lists is answered with lists of their own.
	shared := rows(1, 2)
	sets := batch.Writes([]api.Tx{{Writes: shared}, {Writes: shared}})
	spoil(sets[0], api.Key{Table: -1})
	if !slices.Equal(sets[1], rows(1, 2)) || !slices.Equal(shared, rows(1, 2)) {
		t.Errorf("%v, %v", sets, shared)
	}
}
