package query_test

import (
	"fmt"
	"math"
	"reflect"
	"testing"

	"prelude/api"
	"prelude/engine"
	"prelude/journal"
	"prelude/query"
	"prelude/serial"
)

// client is what a database and its journal have in common.
type client interface {
	Post(b []api.Tx) (int, error)
	Pin(n int) api.Errno
	Unpin(n int) api.Errno
	Collect() int
}

// put is a transaction that puts a value.
func put(k api.Key, v int64) api.Tx { return api.Tx{Args: []int64{v}, Writes: []api.Key{k}} }

// del is a transaction that deletes.
func del(k api.Key) api.Tx { return api.Tx{Proc: 1, Writes: []api.Key{k}} }

// posted lets a batch in.
func posted(t *testing.T, c client, n int, b ...api.Tx) {
	t.Helper()
	if got, err := c.Post(b); got != n || err != nil {
		t.Fatalf("%d, %v, want %d", got, err, n)
	}
}

// asks asks for an answer behind a batch.
func asks(t *testing.T, e *engine.Engine, n int, text, want string) {
	t.Helper()
	lines, f := query.Ask(e, n, parsed(t, text))
	if f != api.OK || told(lines) != want {
		t.Errorf("%s behind %d: %s, %d, want %s", text, n, told(lines), f, want)
	}
}

// unasked asks that nothing is answered behind a batch.
func unasked(t *testing.T, e *engine.Engine, n int, q api.Query, want api.Errno) {
	t.Helper()
	was := e.View()
	if lines, f := query.Ask(e, n, q); f != want || len(lines) != 0 {
		t.Errorf("%d: %v, %d, want %d", n, lines, f, want)
	}
	if now := e.View(); !reflect.DeepEqual(now, was) {
		t.Errorf("%v, and was %v", now, was)
	}
}

// 21.7: what stands behind a pinned batch, and no other one.
func TestAsk(t *testing.T) {
	e := database(t, oneOfAll(), 30)
	q := parsed(t, "from 3 show row, value")
	for _, n := range []int{-1, 0, 1, 2, math.MinInt, math.MaxInt} {
		unasked(t, e, n, q, api.ErrPin)
	}
	var b []api.Tx
	for _, r := range few() {
		b = append(b, put(r.Key, r.Value))
	}
	e.Pin(0)
	posted(t, e, 1, b...)
	unasked(t, e, 1, q, api.ErrPin)
	e.Pin(1)
	posted(t, e, 2, del(api.Key{Table: 3, Row: 1}), put(api.Key{Table: 3, Row: -4}, 0), put(api.Key{Table: 3, Row: 2}, 6))
	e.Pin(2)
	asks(t, e, 0, "from 3 show row, value", "")
	asks(t, e, 1, "from 3 show row, value", "1 10; 2 5; 3 10")
	asks(t, e, 2, "from 3 show row, value", "-4 0; 2 6; 3 10")
	asks(t, e, 2, "from 4 show row, value", "1 7")
	asks(t, e, 2, "from 2 show row, value", "")
	asks(t, e, 2, "from 3 rows -4 to 2 show row", "-4; 2")
	asks(t, e, 2, "from 3 where row >= 2 show row", "2; 3")
	asks(t, e, 2, "from 3 where row < 0 && value == 0 show row", "-4")
	asks(t, e, 2, "from 3 where row < 2 && row > 5 show count, max row", "0 nothing")
	asks(t, e, 2, "from 3 group value show count", "0 1; 6 1; 10 1")
	asks(t, e, 1, "from 3 group value show count, sum row sort 2 desc", "10 2 4; 5 1 2")
	asks(t, e, 1, "from 3 show row sort 1 desc limit 2", "3; 2")
	// The end of one table is not the beginning of the next.
	posted(t, e, 3, put(api.Key{Table: 3, Row: math.MaxInt64}, 1), put(api.Key{Table: 4, Row: math.MinInt64}, 2), put(api.Key{Table: 2, Row: math.MaxInt64}, 3), put(api.Key{Table: 3, Row: math.MinInt64}, 4), put(api.Key{Row: 0}, 5), put(api.Key{Table: api.MaxTable}, 6))
	e.Pin(3)
	asks(t, e, 3, "from 3 show value", "4; 0; 6; 10; 1")
	asks(t, e, 3, "from 4 show value", "2; 7")
	asks(t, e, 3, "from 0 show value", "5")
	asks(t, e, 3, "from 65535 show value", "6")
	unasked(t, e, 4, q, api.ErrPin)
	e.Unpin(2)
	unasked(t, e, 2, q, api.ErrPin)
	asks(t, e, 1, "from 3 show row, value", "1 10; 2 5; 3 10")
}

// 21.7: Check's error comes ahead of ErrPin, and both change nothing.
func TestAskRefuses(t *testing.T) {
	e := database(t, oneOfAll(), 30)
	posted(t, e, 1, put(api.Key{Table: 3}, 1))
	e.Pin(1)
	q := parsed(t, "from 3 show row, value")
	bad := q
	bad.Table = -1
	for _, n := range []int{-1, 0, 1, 2} {
		unasked(t, e, n, bad, api.ErrTable)
	}
	for want, alter := range map[api.Errno]func(q *api.Query){
		api.ErrTable: func(q *api.Query) { q.From, q.To = 1, 0 },
		api.ErrLimit: func(q *api.Query) { q.Sorts = many(9, api.Sort{Column: 1}) },
		api.ErrTerm:  func(q *api.Query) { q.Where = []int{7} },
		api.ErrItems: func(q *api.Query) { q.Items[0].Kind = 9 },
		api.ErrSorts: func(q *api.Query) { q.Limit = -2 },
	} {
		bad := parsed(t, "from 3 show row, value")
		alter(&bad)
		unasked(t, e, 1, bad, want)
		unasked(t, e, 0, bad, want)
	}
	if e.View().Steps != 0 {
		t.Errorf("%v", e.View())
	}
	// A query that looks at no row asks all the same, and a limit of 0 too.
	for _, text := range []string{"from 3 where row < 0 && row > 0 show count", "from 3 show row limit 0"} {
		unasked(t, e, 0, parsed(t, text), api.ErrPin)
	}
}

// layouts is a few ways to spread the work.
func layouts() []api.Layout {
	return []api.Layout{oneOfAll(), {Workers: 3, Hands: 2, Parts: 5, Ahead: 2}, {Workers: 2, Hands: 7, Parts: 16, Ahead: 16}}
}

// key is one of few keys.
func (m *maker) key() api.Key {
	return api.Key{Table: one(m, 3, 3, 3, 4), Row: int64(m.Intn(12)) - 3}
}

// batch is any batch for the library.
func (m *maker) batch() []api.Tx {
	var b []api.Tx
	for range m.Intn(6) {
		k := m.key()
		switch m.Intn(4) {
		case 0:
			b = append(b, del(k))
		case 1:
			b = append(b, api.Tx{Proc: 2, Args: []int64{m.edge()}, Reads: []api.Key{m.key()}, Writes: []api.Key{k}})
		default:
			b = append(b, put(k, m.edge()))
		}
	}
	return b
}

// 21.8, W2, W3, W12: at any layout, whatever was let in, collected and stepped since, the answer is that over what stands behind the batch in the plain database.
func TestAskIsOfOneMoment(t *testing.T) {
	answers := 0
	for i, l := range layouts() {
		m := newMaker(218)
		steps := newMaker(int64(i))
		for range 80 {
			e := database(t, l, 300)
			d, _ := serial.New(library())
			pins := map[int]int{}
			for range 60 {
				switch m.Intn(8) {
				case 0:
					n := d.Latest()
					if f := e.Pin(n); f == api.OK {
						pins[n]++
					}
				case 1:
					n := m.Intn(d.Latest() + 1)
					if e.Unpin(n) == api.OK {
						pins[n]--
					}
				case 2:
					e.Collect()
				case 3, 4, 5:
					n := m.Intn(d.Latest() + 1)
					x := m.question()
					rows, _ := d.Rows(n)
					want := told(x.over(rows))
					lines, f := query.Ask(e, n, m.shuffled(x.query()))
					if pins[n] > 0 && (f != api.OK || told(lines) != want) || pins[n] == 0 && (f != api.ErrPin || len(lines) != 0) {
						text, _ := x.text()
						t.Fatalf("%s behind %d, pinned %d times: %s, %d, want %s", text, n, pins[n], told(lines), f, want)
					}
					answers += len(lines)
				default:
					b := m.batch()
					if _, err := e.Post(b); err == nil {
						d.Apply(b)
					}
				}
				for range steps.Intn(9) {
					e.Step(steps.Int())
				}
			}
		}
	}
	if answers < 500 {
		t.Errorf("%d lines", answers)
	}
}

// 21.8: an answer changes no other one: the same again and again, and nothing else but steps.
func TestAskChangesNothing(t *testing.T) {
	m := newMaker(2181)
	for range 100 {
		e, plain := database(t, layouts()[1], 300), database(t, layouts()[1], 300)
		for n := 1; n <= 8; n++ {
			b := m.batch()
			posted(t, e, n, b...)
			posted(t, plain, n, b...)
			e.Pin(n)
			plain.Pin(n)
			q := m.question().query()
			at := 1 + m.Intn(n)
			one, f := query.Ask(e, at, q)
			two, g := query.Ask(e, at, q)
			if f != api.OK || g != api.OK || told(one) != told(two) {
				t.Fatalf("%v, %d, %v, %d", one, f, two, g)
			}
		}
		if !reflect.DeepEqual(e.Snapshot(), plain.Snapshot()) {
			t.Fatal("a snapshot is another one")
		}
	}
}

// 21.8, W9: a database that is opened from its journal, or restored from a snapshot, answers the same.
func TestAskBehindACrash(t *testing.T) {
	m := newMaker(2182)
	for range 60 {
		d, f := journal.Create(layouts()[0], library(), 300)
		if f != api.OK {
			t.Fatal(f)
		}
		for n := 1; n <= 6; n++ {
			posted(t, d, n, m.batch()...)
			d.Pin(n)
			if m.Intn(4) == 0 {
				d.Collect()
			}
		}
		opened, err := journal.Open(layouts()[2], d.Bytes())
		restored, f := engine.Restore(layouts()[1], library(), 300, d.Snapshot())
		if err != nil || f != api.OK {
			t.Fatal(err, f)
		}
		for n := 1; n <= 6; n++ {
			q := m.question().query()
			want, f := query.Ask(d.Engine, n, q)
			for _, e := range []*engine.Engine{opened.Engine, restored} {
				if got, g := query.Ask(e, n, q); f != api.OK || g != api.OK || told(got) != told(want) {
					t.Fatalf("%v behind %d: %s, %d, want %s, %d", q, n, told(got), g, told(want), f)
				}
			}
		}
	}
}

// 21.8: no more lines than the limit, whatever is asked.
func TestAskLimits(t *testing.T) {
	e := database(t, oneOfAll(), 30)
	for n := 1; n <= 9; n++ {
		posted(t, e, n, put(api.Key{Table: 3, Row: int64(n)}, int64(n%3)))
	}
	e.Pin(9)
	for limit := range 12 {
		for text, most := range map[string]int{"from 3 show row": 9, "from 3 group value show count": 3, "from 3 show count": 1} {
			lines, f := query.Ask(e, 9, parsed(t, fmt.Sprint(text, " limit ", limit)))
			if f != api.OK || len(lines) != min(limit, most) {
				t.Errorf("%s limit %d: %v, %d", text, limit, lines, f)
			}
		}
	}
}
