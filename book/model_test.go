package book_test

import (
	"fmt"
	"math/rand"
	"slices"
	"testing"

	"prelude/api"
	"prelude/book"
	"prelude/keys"
)

// counted is a counted version of the model.
type counted struct {
	key api.Key
	at  api.Place
}

// model is the chapter's words taken by the letter: all counted versions in one list, in the order in which they were let in; and each pin of a batch as a member of its own.
type model struct {
	capacity, latest, floor int
	list                    []counted
	pins                    []int
}

func (m *model) admit(w [][]api.Key) (int, api.Errno) {
	if len(w) > 64 {
		return 0, api.ErrTxs
	}
	weight := 0
	for _, l := range w {
		if len(l) > 16 {
			return 0, api.ErrWrites
		}
		for i, k := range l {
			if keys.Check(k) != api.OK || i > 0 && keys.Compare(l[i-1], k) != -1 {
				return 0, api.ErrSet
			}
		}
		weight += len(l)
	}
	if len(m.list)+weight > m.capacity {
		return 0, api.ErrRoom
	}
	m.latest++
	for i, l := range w {
		for _, k := range l {
			m.list = append(m.list, counted{k, p(m.latest, i)})
		}
	}
	return m.latest, api.OK
}

// batches is the pinned batches, rising.
func (m *model) batches() []int {
	rising := slices.Clone(m.pins)
	slices.Sort(rising)
	return slices.Compact(rising)
}

func (m *model) pin(n int) api.Errno {
	is := slices.Contains(m.pins, n)
	switch {
	case n < 0 || n > m.latest:
		return api.ErrBatch
	case n < m.floor && !is:
		return api.ErrFloor
	case !is && len(m.batches()) == 32:
		return api.ErrPins
	}
	m.pins = append(m.pins, n)
	return api.OK
}

func (m *model) unpin(n int) api.Errno {
	i := slices.Index(m.pins, n)
	if i < 0 {
		return api.ErrPin
	}
	m.pins = slices.Delete(m.pins, i, i+1)
	return api.OK
}

// sees is the newest counted version of a key whose batch is not above n, and whether there is one.
func (m *model) sees(k api.Key, n int) (api.Place, bool) {
	for _, v := range slices.Backward(m.list) {
		if v.key == k && v.at.Batch <= n {
			return v.at, true
		}
	}
	return api.Place{}, false
}

func (m *model) collect() int {
	m.floor = m.latest
	kept := make(map[counted]int)
	for _, v := range m.list {
		for _, n := range append(m.batches(), m.latest) {
			if at, is := m.sees(v.key, n); is {
				kept[counted{v.key, at}]++
			}
		}
	}
	before := len(m.list)
	m.list = slices.DeleteFunc(m.list, func(v counted) bool { return kept[v] == 0 })
	return before - len(m.list)
}

// told is the text of all that a book must tell.
func (m *model) told() string {
	var pinned []api.Pin
	for _, n := range m.batches() {
		count := 0
		for _, other := range m.pins {
			if other == n {
				count++
			}
		}
		pinned = append(pinned, api.Pin{Batch: n, Count: count})
	}
	var all []api.Key
	for _, v := range m.list {
		all = append(all, v.key)
	}
	all, _ = keys.Sort(all)
	text := fmt.Sprint(pinned, fmt.Sprint(m.capacity, len(m.list), m.latest, m.floor))
	for _, k := range all {
		var places []api.Place
		for _, v := range m.list {
			if v.key == k {
				places = append(places, v.at)
			}
		}
		text += fmt.Sprint("; ", k, places)
	}
	return text
}

// some is lists of writes, mostly of a right form.
func some(r *rand.Rand, all []api.Key) [][]api.Key {
	if r.Intn(60) == 0 {
		return make([][]api.Key, 65)
	}
	w := make([][]api.Key, r.Intn(4))
	for i := range w {
		for _, k := range all {
			if r.Intn(3) == 0 {
				w[i] = append(w[i], k)
			}
		}
		switch r.Intn(40) {
		case 0:
			slices.Reverse(w[i])
		case 1:
			w[i] = append(w[i], api.Key{Table: -1})
		case 2:
			w[i] = run(0, 17)
		}
	}
	return w
}

// act does one call to a book and to the model, and tells whether it was refused.
func (m *model) act(t *testing.T, b *book.Book, r *rand.Rand, all []api.Key) bool {
	t.Helper()
	n := r.Intn(m.latest+4) - 1
	if len(m.pins) > 0 && r.Intn(2) == 0 {
		n = m.pins[r.Intn(len(m.pins))]
	}
	switch r.Intn(12) {
	case 0, 1, 2:
		e, want := b.Pin(n), m.pin(n)
		if e != want {
			t.Fatalf("Pin(%d): %d, not %d", n, e, want)
		}
		return e != api.OK
	case 3, 4, 5:
		e, want := b.Unpin(n), m.unpin(n)
		if e != want {
			t.Fatalf("Unpin(%d): %d, not %d", n, e, want)
		}
		return e != api.OK
	case 6:
		if got, want := b.Collect(), m.collect(); got != want {
			t.Fatalf("Collect() is %d, not %d", got, want)
		}
		return false
	}
	w := some(r, all)
	got, e := b.Admit(w)
	want, wantErr := m.admit(w)
	if got != want || e != wantErr {
		t.Fatalf("Admit(%v): %d, %d, not %d, %d", w, got, e, want, wantErr)
	}
	return e != api.OK
}

// random is a model without batches, a book for it, and keys to write.
func random(t *testing.T, r *rand.Rand) (*model, *book.Book, []api.Key) {
	t.Helper()
	m := &model{capacity: 1 + r.Intn(40)}
	var all []api.Key
	for i := range 1 + r.Intn(6) {
		all = append(all, api.Key{Table: r.Intn(3), Row: int64(i * (r.Intn(3) - 1))})
	}
	all, _ = keys.Sort(all)
	return m, made(t, m.capacity), all
}

// 10.3 to 10.8: whatever is done, a book answers and tells what a plain list of versions does; what is refused has changed nothing, and the charge is never above the capacity.
func TestModel(t *testing.T) {
	r := rand.New(rand.NewSource(10))
	for range 100 {
		m, b, all := random(t, r)
		for range 200 {
			was := told(b)
			refused := m.act(t, b, r, all)
			is := told(b)
			if is != m.told() {
				t.Fatalf("it is %s, not %s", is, m.told())
			}
			if refused && is != was {
				t.Fatalf("what was refused has left %s, not %s", is, was)
			}
			if b.Charge() > b.Capacity() {
				t.Fatalf("the charge is %d of %d", b.Charge(), b.Capacity())
			}
		}
	}
}

// view is the text of what a batch sees: of each key the newest version that is not above it.
func view(b *book.Book, n int) string {
	text := ""
	for _, k := range b.Keys() {
		for _, at := range slices.Backward(b.Versions(k)) {
			if at.Batch <= n {
				text += fmt.Sprint(k, at, " ")
				break
			}
		}
	}
	return text
}

// 10.9: what a pinned batch has seen when it was pinned, it sees as long as it is pinned; and the latest one sees the same ahead of a Collect and behind it.
func TestPinnedSees(t *testing.T) {
	r := rand.New(rand.NewSource(109))
	for range 60 {
		m, b, all := random(t, r)
		seen := make(map[int]string)
		for range 200 {
			m.act(t, b, r, all)
			pinned := countsOf(b)
			for n := range seen {
				if pinned[n] == 0 {
					delete(seen, n)
				}
			}
			for n := range pinned {
				is := view(b, n)
				if was, known := seen[n]; known && is != was {
					t.Fatalf("batch %d sees %s, not %s", n, is, was)
				}
				seen[n] = is
			}
			if r.Intn(10) == 0 {
				was := view(b, b.Latest())
				if got, want := b.Collect(), m.collect(); got != want {
					t.Fatalf("Collect() is %d, not %d", got, want)
				}
				if is := view(b, b.Latest()); is != was {
					t.Fatalf("the latest batch sees %s, not %s", is, was)
				}
			}
		}
	}
}

// 10.10: behind a Collect no key has more versions than it must, a second one lets nothing go, and a batch is let in that K (P + 1) leaves room for.
func TestNoLonger(t *testing.T) {
	r := rand.New(rand.NewSource(1010))
	for range 60 {
		m, b, all := random(t, r)
		for range 40 {
			for range 5 {
				m.act(t, b, r, all)
			}
			if got, want := b.Collect(), m.collect(); got != want {
				t.Fatalf("Collect() is %d, not %d", got, want)
			}
			pinned := len(b.Pins())
			for _, k := range b.Keys() {
				if n := len(b.Versions(k)); n > pinned+1 {
					t.Fatalf("%v has %d versions with %d pins", k, n, pinned)
				}
			}
			if got := b.Collect(); got != 0 {
				t.Fatalf("a second Collect() is %d", got)
			}
			room := b.Capacity() - len(b.Keys())*(pinned+1)
			if room < 0 {
				continue
			}
			w := same(min(room, 64), all[:1])
			if n, e := b.Admit(w); n != m.latest+1 || e != api.OK {
				t.Fatalf("%d writes with room for %d: %d, %d", len(w), room, n, e)
			}
			m.admit(w)
		}
	}
}

// 10.11: at any Collect a book may be put down and restored, and nobody sees it: all later answers are those of the model, which goes on.
func TestRestoredGoesOn(t *testing.T) {
	r := rand.New(rand.NewSource(1011))
	for range 60 {
		m, b, all := random(t, r)
		for range 20 {
			for range 10 {
				m.act(t, b, r, all)
			}
			if got, want := b.Collect(), m.collect(); got != want {
				t.Fatalf("Collect() is %d, not %d", got, want)
			}
			b = restored(t, b.Capacity(), snapshot(b))
			if is := told(b); is != m.told() {
				t.Fatalf("restored it is %s, not %s", is, m.told())
			}
		}
	}
}

// 10.2: of snapshots at random just those can be restored that a Collect would leave as they are.
func TestImages(t *testing.T) {
	r := rand.New(rand.NewSource(102))
	right := 0
	for range 20000 {
		s := api.Snapshot{Latest: 6}
		m := &model{latest: 6, capacity: 100}
		for n := range 7 {
			if r.Intn(3) == 0 {
				s.Pins = append(s.Pins, api.Pin{Batch: n, Count: 1})
				m.pins = append(m.pins, n)
			}
		}
		for row := range int64(2) {
			c := chain(at(row))
			for n := range 6 {
				if r.Intn(3) == 0 || n == 5 && len(c.Versions) == 0 {
					c.Versions = append(c.Versions, api.Stamp{Batch: n + 1, Index: 2})
					m.list = append(m.list, counted{at(row), p(n+1, 2)})
				}
			}
			s.Chains = append(s.Chains, c)
		}
		if m.collect() > 0 {
			spoilt(t, 100, s, api.ErrImage)
			continue
		}
		right++
		if is := told(restored(t, 100, s)); is != m.told() {
			t.Fatalf("it is %s, not %s", is, m.told())
		}
	}
	if right < 1000 {
		t.Errorf("only %d of the snapshots are right", right)
	}
}
