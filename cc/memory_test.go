package cc_test

import (
	"slices"
	"testing"

	"prelude/api"
)

// sameTx tells whether two transactions are the same.
func sameTx(a, b api.Tx) bool {
	return a.Proc == b.Proc && slices.Equal(a.Args, b.Args) && slices.Equal(a.Reads, b.Reads) && slices.Equal(a.Writes, b.Writes)
}

// spoil writes over a list, and over the spare room behind its end.
func spoil[E any](list []E, with E) {
	list = list[:cap(list)]
	for i := range list {
		list[i] = with
	}
}

// spoilTx writes over all lists of a transaction.
func spoilTx(x api.Tx) {
	spoil(x.Args, -99)
	spoil(x.Reads, api.Key{Table: 99})
	spoil(x.Writes, api.Key{Table: 98})
}

// spoilNote writes over all lists of a note.
func spoilNote(n api.Note) {
	spoilTx(n.Tx)
	spoil(n.Reads, -1)
	spoil(n.Before, -2)
	spoil(n.Own, -3)
}

// spoilOutcome writes over all lists of an outcome.
func spoilOutcome(o api.Outcome) {
	spoil(o.Out, -99)
	spoil(o.Read, api.Cell{Is: true, Value: -99})
}

// roomy is a list with spare room behind its end, that holds marks.
func roomy[E any](list []E, mark E) []E {
	return slices.Concat(list, slices.Repeat([]E{mark}, 8))[:len(list)]
}

// roomyTx is a transaction all of whose lists have spare room.
func roomyTx(x api.Tx) api.Tx {
	x.Args, x.Reads, x.Writes = roomy(x.Args, 77), roomy(x.Reads, at(77)), roomy(x.Writes, at(77))
	return x
}

// several is a batch with lists of many lengths.
func several() []api.Tx {
	return txs(api.Tx{Args: []int64{1, 2, 3}, Reads: run(1, 5), Writes: run(2, 3)}, api.Tx{Args: []int64{4}, Reads: set(2), Writes: set(1, 5)}, tx(nil, run(0, 7)), api.Tx{})
}

// R4: what is posted is neither changed nor kept, what lies in the spare room behind its end too.
func TestHandedInBatch(t *testing.T) {
	b, st := made(t, 2, 100, 2, 2)
	other, otherStore := made(t, 2, 100, 2, 2)
	list := roomy(several(), api.Tx{Proc: 77})
	for i, x := range list {
		list[i] = roomyTx(x)
	}
	posts(t, b, 1, list...)
	posts(t, other, 1, several()...)
	for i, x := range several() {
		got := list[i]
		if !sameTx(got, x) || got.Args[:len(got.Args)+1][len(got.Args)] != 77 || got.Reads[:len(got.Reads)+1][len(got.Reads)] != at(77) || got.Writes[:len(got.Writes)+1][len(got.Writes)] != at(77) {
			t.Errorf("transaction %d has become %v", i, got)
		}
	}
	if list[:len(list)+1][len(list)].Proc != 77 {
		t.Error("what lies behind the batch has changed")
	}
	steps(t, b, 1, 2)
	steps(t, other, 1, 2)
	for _, x := range list {
		spoilTx(x)
	}
	spoil(list, api.Tx{Proc: 9, Writes: set(9)})
	lays(b, 2)
	lays(other, 2)
	numbers(t, b, 1, 1, 0)
	if is, want := told(b, st), told(other, otherStore); is != want {
		t.Errorf("it is %s, not %s", is, want)
	}
}

// R4: so it is with an outcome.
func TestHandedInOutcome(t *testing.T) {
	b, _ := made(t, 1, 100, 1, 2)
	posts(t, b, 1, put(1))
	steps(t, b, 0, 2)
	claims(t, b, 0, p(1, 0))
	o := api.Outcome{Commit: true, Out: roomy([]int64{1, 2}, 77), Read: roomy([]api.Cell{{Value: 5}, cell(6)}, cell(77))}
	finishes(t, b, p(1, 0), o, api.OK)
	if !slices.Equal(o.Out[:3], []int64{1, 2, 77}) || !slices.Equal(o.Read[:3], []api.Cell{{Value: 5}, cell(6), cell(77)}) {
		t.Errorf("the outcome has become %v", o)
	}
	spoilOutcome(o)
	outcomeIs(t, b, p(1, 0), api.Outcome{Commit: true, Out: []int64{1, 2}, Read: []api.Cell{{}, cell(6)}}, api.OK)
}

// R4: what is handed out is new memory, and no two lists of one answer share any.
func TestNewMemory(t *testing.T) {
	b, st := made(t, 2, 100, 2, 2)
	posts(t, b, 1, several()...)
	posts(t, b, 2, several()...)
	lays(b, 2)
	claims(t, b, 0, p(1, 0))
	finishes(t, b, p(1, 0), api.Outcome{Out: []int64{1, 2, 3}, Read: []api.Cell{cell(4), {}, cell(5)}}, api.OK)
	was := told(b, st)
	for n := 1; n <= 2; n++ {
		for i := range several() {
			kept, _ := b.Note(p(n, i))
			gone, _ := b.Note(p(n, i))
			spoilNote(gone)
			again, _ := b.Note(p(n, i))
			if !sameTx(kept.Tx, several()[i]) || !slices.Equal(kept.Reads, again.Reads) || !slices.Equal(kept.Before, again.Before) || !slices.Equal(kept.Own, again.Own) {
				t.Errorf("an answer has become %v", kept)
			}
			apart(t, kept)
		}
	}
	kept, _ := b.Outcome(p(1, 0))
	gone, _ := b.Outcome(p(1, 0))
	spoilOutcome(gone)
	if !slices.Equal(kept.Out, []int64{1, 2, 3}) || !slices.Equal(kept.Read, []api.Cell{cell(4), {}, cell(5)}) {
		t.Errorf("an answer has become %v", kept)
	}
	if is := told(b, st); is != was {
		t.Errorf("it is %s, not %s", is, was)
	}
}

// apart looks that the lists of a note share no memory, spare room and all: whoever grows one grows into no other.
func apart(t *testing.T, n api.Note) {
	t.Helper()
	lists := [][]int{n.Reads, n.Before, n.Own}
	for i, l := range lists {
		var was [][]int
		for _, other := range lists {
			was = append(was, slices.Clone(other))
		}
		spoil(l, -7)
		_ = append(l, -8)
		for j, other := range lists {
			if j != i && !slices.Equal(other, was[j]) {
				t.Errorf("list %d of a note reaches into list %d", i, j)
			}
		}
		copy(l, was[i])
	}
	reads := slices.Clone(n.Tx.Reads)
	spoil(n.Tx.Writes, at(-7))
	if !slices.Equal(n.Tx.Reads, reads) {
		t.Error("the sets of a note's transaction share memory")
	}
}

// R4: an answer is of its moment, whatever is done later.
func TestAnswersStay(t *testing.T) {
	b, st := made(t, 1, 100, 1, 2)
	posts(t, b, 1, both(1), both(1))
	steps(t, b, 0, 5)
	note, _ := b.Note(p(1, 1))
	does(t, b, p(1, 0), p(1, 1))
	outcome, _ := b.Outcome(p(1, 1))
	st.Remove(1)
	b.Forget(1)
	posts(t, b, 2, both(1))
	steps(t, b, 0, 3)
	if note.State != api.TxPosted || !slices.Equal(note.Reads, nums(1)) || !slices.Equal(note.Own, nums(2)) || outcome.Commit {
		t.Errorf("answers have become %v, %v", note, outcome)
	}
}

// R6: two boards over two stores know nothing of one another.
func TestTwoBoards(t *testing.T) {
	a, aStore := made(t, 1, 8, 1, 1)
	posts(t, a, 1, both(1))
	steps(t, a, 0, 1)
	was := told(a, aStore)
	b, _ := made(t, 1, 8, 1, 1)
	b.Hold()
	posts(t, b, 1, put(1))
	b.Free()
	steps(t, b, 0, 2)
	does(t, b, p(1, 0))
	b.Forget(1)
	b.Hold()
	if is := told(a, aStore); is != was {
		t.Errorf("it is %s, not %s", is, was)
	}
	steps(t, a, 0, 2)
	numbers(t, a, 1, 1, 0)
}
