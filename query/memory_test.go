package query_test

import (
	"cmp"
	"reflect"
	"slices"
	"sync"
	"testing"

	"prelude/api"
	"prelude/query"
)

// stretch is a piece of memory.
type stretch struct {
	from, to uintptr
}

// stretches is the memory of all lists in a value, spare room behind their ends too.
func stretches(v reflect.Value) []stretch {
	var out []stretch
	switch v.Kind() {
	case reflect.Slice:
		if v.Cap() > 0 {
			out = append(out, stretch{v.Pointer(), v.Pointer() + uintptr(v.Cap())*v.Type().Elem().Size()})
		}
		for i := range v.Len() {
			out = append(out, stretches(v.Index(i))...)
		}
	case reflect.Struct:
		for i := range v.NumField() {
			out = append(out, stretches(v.Field(i))...)
		}
	}
	return out
}

// apart asks that no two lists of some values share memory.
func apart(t *testing.T, values ...any) {
	t.Helper()
	var all []stretch
	for _, v := range values {
		all = append(all, stretches(reflect.ValueOf(v))...)
	}
	slices.SortFunc(all, func(a, b stretch) int { return cmp.Compare(a.from, b.from) })
	for i := 1; i < len(all); i++ {
		if all[i].from < all[i-1].to {
			t.Fatalf("two lists of %v share memory", values)
		}
	}
}

// spared is a list with spare room, in which something stands.
func spared[T any](list []T, spare T) []T {
	return append(list[:len(list):len(list)], spare, spare)[:len(list)]
}

// roomy is a query whose lists have spare room, in which something stands.
func roomy(q api.Query) api.Query {
	q.Where = spared(q.Where, 77)
	q.Items = spared(q.Items, api.Item{Kind: 77})
	q.Sorts = spared(q.Sorts, api.Sort{Column: 77})
	q.Terms = spared(q.Terms, api.Term{Op: 77})
	return q
}

// wide is a query with what lies in its spare room.
func wide(q api.Query) api.Query {
	q.Where = slices.Clone(q.Where[:cap(q.Where)])
	q.Items = slices.Clone(q.Items[:cap(q.Items)])
	q.Sorts = slices.Clone(q.Sorts[:cap(q.Sorts)])
	q.Terms = slices.Clone(q.Terms[:cap(q.Terms)])
	return q
}

// spoil makes all that lies in a query's lists something else.
func spoil(q api.Query) {
	clear(q.Where[:cap(q.Where)])
	clear(q.Items[:cap(q.Items)])
	clear(q.Sorts[:cap(q.Sorts)])
	clear(q.Terms[:cap(q.Terms)])
}

// spoilt makes all that lies in lines something else.
func spoilt(lines [][]api.Cell) {
	for _, l := range lines {
		clear(l[:cap(l)])
	}
	clear(lines[:cap(lines)])
}

// R4: what is answered is new memory, also where a query stays as it is.
func TestAnswersAreNewMemory(t *testing.T) {
	m := newMaker(4)
	e := database(t, oneOfAll(), 300)
	posted(t, e, 1, m.batch()...)
	posted(t, e, 2, m.batch()...)
	e.Pin(2)
	for range 3000 {
		q := m.question().query()
		text, f := query.Text(q)
		rows := m.rows(12)
		one, two := narrowed(t, q), narrowed(t, q)
		apart(t, q, one, two, narrowed(t, one))
		lines, _ := query.Over(q, rows)
		others, _ := query.Over(q, rows)
		asked, _ := query.Ask(e, 2, q)
		again, _ := query.Ask(e, 2, q)
		apart(t, q, rows, lines, others, asked, again)
		if f == api.OK {
			apart(t, q, parsed(t, text), parsed(t, text))
		}
		// Nor does a list of lines have others behind its end.
		for _, line := range lines[:cap(lines)][len(lines):] {
			if line != nil {
				t.Fatalf("%v lies behind the lines of %v", line, q)
			}
		}
	}
}

// R4: what is handed in is not changed, nor is what lies behind its lists' ends; and that is not looked at.
func TestNothingIsChanged(t *testing.T) {
	m := newMaker(40)
	e := database(t, oneOfAll(), 300)
	posted(t, e, 1, m.batch()...)
	e.Pin(1)
	for range 3000 {
		bare := m.shuffled(m.question().query())
		q, was := roomy(bare), wide(roomy(bare))
		few := m.rows(12)
		rows := spared(few, api.Row{Key: api.Key{Table: 3}, Value: 77})
		all := slices.Clone(rows[:cap(rows)])
		text, _ := query.Text(q)
		narrow := narrowed(t, q)
		lines, _ := query.Over(q, rows)
		answer, _ := query.Ask(e, 1, q)
		if query.Check(q) != api.OK || !reflect.DeepEqual(wide(q), was) || !slices.Equal(rows[:cap(rows)], all) {
			t.Fatalf("%+v was changed: %+v", was, wide(q))
		}
		plainText, _ := query.Text(bare)
		plainLines, _ := query.Over(bare, few)
		plainAnswer, _ := query.Ask(e, 1, bare)
		same(t, "with spare room", narrow, narrowed(t, bare))
		if text != plainText || told(lines) != told(plainLines) || told(answer) != told(plainAnswer) {
			t.Fatalf("%+v is another thing with spare room behind it", bare)
		}
	}
}

// R4: what is answered does not hang on what becomes later of what was handed in, or of other answers.
func TestAnswersStay(t *testing.T) {
	m := newMaker(41)
	e := database(t, oneOfAll(), 300)
	posted(t, e, 1, m.batch()...)
	e.Pin(1)
	for range 2000 {
		q := m.question().query()
		rows := m.rows(12)
		narrow, other := narrowed(t, q), narrowed(t, q)
		lines, _ := query.Over(q, rows)
		others, _ := query.Over(q, rows)
		answer, _ := query.Ask(e, 1, q)
		wantNarrow, want, wantAnswer := wide(narrow), told(lines), told(answer)
		again, _ := query.Ask(e, 1, q)
		spoil(q)
		clear(rows)
		spoil(other)
		spoilt(others)
		spoilt(again)
		if !reflect.DeepEqual(wide(narrow), wantNarrow) || told(lines) != want || told(answer) != wantAnswer {
			t.Fatalf("%+v, %s, %s", narrow, told(lines), told(answer))
		}
	}
}

// R6: calls know nothing of one another, also where many are made at one time.
func TestAtOneTime(t *testing.T) {
	m := newMaker(42)
	var list []question
	for range 200 {
		list = append(list, m.question())
	}
	rows := m.rows(40)
	var wait sync.WaitGroup
	for range 8 {
		wait.Go(func() {
			for _, x := range list {
				q := x.query()
				lines, e := query.Over(q, rows)
				narrow, f := query.Narrow(q)
				others, g := query.Over(narrow, rows)
				if want := told(x.over(rows)); e != api.OK || f != api.OK || g != api.OK || told(lines) != want || told(others) != want {
					t.Errorf("%s, %s, want %s", told(lines), told(others), want)
				}
				if text, h := query.Text(q); h == api.OK {
					if _, err := query.Parse(text); err != nil {
						t.Error(err)
					}
				}
			}
		})
	}
	wait.Wait()
}

// 21.5: groups come in the same order each time, however the map is gone through.
func TestGroupsComeTheSame(t *testing.T) {
	var rows []api.Row
	for i := range int64(500) {
		rows = append(rows, list(i, i*7919%251)...)
	}
	q := parsed(t, "from 3 group value show count, min row sort 2")
	want := ""
	for range 50 {
		lines, _ := query.Over(q, rows)
		if want == "" {
			want = told(lines)
		}
		if told(lines) != want {
			t.Fatal("groups come in another order")
		}
	}
}
