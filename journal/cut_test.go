package journal_test

import (
	"bytes"
	"fmt"
	"testing"

	"prelude/api"
	"prelude/journal"
)

// 17.6: a journal that is cut anywhere is the database behind the first ones of its operations.
func TestCutAnywhere(t *testing.T) {
	data := written(t, one(), 12, some()...).Bytes()
	list := ends(t, data)
	if len(list) != 1+len(some()) {
		t.Fatalf("%d records", len(list))
	}
	want := make([]string, len(list))
	for k := range want {
		want[k] = further(played(t, one(), 12, some()[:k]...))
	}
	for size := range data {
		if size < list[0] {
			refuses(t, fmt.Sprint("cut at ", size), data[:size], 0, api.ErrHead)
			continue
		}
		k := 0 // operations whose records lie whole ahead of the cut
		for k < len(some()) && list[k+1] <= size {
			k++
		}
		d := opened(t, layouts()[size%len(layouts())], data[:size])
		if !bytes.Equal(d.Bytes(), data[:list[k]]) {
			t.Fatalf("cut at %d: %d bytes, not %d", size, len(d.Bytes()), list[k])
		}
		if got := further(d); got != want[k] {
			t.Fatalf("cut at %d:\n%s\nnot, behind %d operations,\n%s", size, got, k, want[k])
		}
	}
}

// Example 10 of the whole: its examples 1 and 4, cut anywhere.
func TestExampleOfTheWhole(t *testing.T) {
	d := created(t, one(), 8)
	posts(t, d, 1, put(10, 1), put(5, 2))
	posts(t, d, 2, move(4, 1, 2), move(20, 1, 2))
	d.Collect()
	posts(t, d, 3, put(1, 3), put(1, 4), move(1, 1, 2))
	data := d.Bytes()
	list := ends(t, data)
	for size := list[0]; size <= len(data); size++ {
		v := opened(t, one(), data[:size]).View()
		var want api.View
		switch {
		case size >= list[4]:
			want = api.View{Latest: 3, Floor: 2, Charge: 6}
		case size >= list[3]:
			want = api.View{Latest: 2, Floor: 2, Charge: 2}
		case size >= list[2]:
			want = api.View{Latest: 2, Charge: 6}
		case size >= list[1]:
			want = api.View{Latest: 1, Charge: 2}
		}
		if fmt.Sprint(v) != fmt.Sprint(want) {
			t.Errorf("cut at %d: %v, not %v", size, v, want)
		}
	}
}

// 17.7: Open of what Bytes answers is the same database, with the same Bytes.
func TestThereAndBack(t *testing.T) {
	for k := range len(some()) + 1 {
		for _, l := range layouts() {
			d := written(t, one(), 12, some()[:k]...)
			again := opened(t, l, opened(t, one(), d.Bytes()).Bytes())
			if !bytes.Equal(again.Bytes(), d.Bytes()) {
				t.Fatalf("%d operations: Bytes are others", k)
			}
			if got, want := further(again), further(d); got != want {
				t.Fatalf("%d operations:\n%s\nnot\n%s", k, got, want)
			}
			if !bytes.Equal(again.Bytes(), d.Bytes()) {
				t.Fatalf("%d operations, and further ones: Bytes are others", k)
			}
		}
	}
}

// 17.7: a database that crashes behind each record, or in the midst of the next one, ends as one that never did.
func TestCrashesAgainAndAgain(t *testing.T) {
	plain := written(t, one(), 12, some()...)
	end, want := plain.Bytes(), further(plain)
	for torn := range 13 { // bytes: less than any record has
		d := created(t, one(), 12)
		for i, o := range some() {
			o(d)
			size := len(d.Bytes())
			some()[(i+torn)%len(some())](d) // what its client is never answered
			data := d.Bytes()
			d = opened(t, layouts()[(i+torn)%len(layouts())], data[:min(size+torn, len(data))])
		}
		if !bytes.Equal(d.Bytes(), end) {
			t.Errorf("%d bytes are torn at each crash: Bytes are others", torn)
		}
		if further(d) != want {
			t.Errorf("%d bytes are torn at each crash: it answers otherwise", torn)
		}
	}
}

// 17.9: a byte behind the head that is changed to any other is told, at its record.
func TestChangedByte(t *testing.T) {
	data := written(t, one(), 12, some()...).Bytes()
	list := ends(t, data)
	record := 0
	for i := list[0]; i < len(data); i++ {
		if i == list[record+1] {
			record++
		}
		was := data[i]
		for other := range 256 {
			if byte(other) == was {
				continue
			}
			data[i] = byte(other)
			d, err := journal.Open(one(), data)
			if d != nil {
				t.Fatalf("a database with byte %d changed to %d", i, other)
			}
			at(t, fmt.Sprintf("byte %d is changed to %d", i, other), err, list[record], api.ErrSum)
		}
		data[i] = was
	}
}
