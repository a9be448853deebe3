package query

import (
	"prelude/api"
	"prelude/codec"
)

// writing gathers the words of a query's text.
type writing struct {
	terms   []api.Term
	words   []string
	deep    int  // how many brackets and unary marks the next one stands in
	tooDeep bool // whether one stands in too many
}

// write gathers words.
func (w *writing) write(words ...string) { w.words = append(w.words, words...) }

// number gathers a number that is not below 0.
func (w *writing) number(n int64) { w.write(codec.Digits(n)) }

// query gathers the whole.
func (w *writing) query(q api.Query) {
	w.write("from")
	w.number(int64(q.Table))
	if !wholeRange(q) {
		w.write("rows")
		w.bound(q.From)
		w.write("to")
		w.bound(q.To)
	}
	for _, t := range q.Where {
		w.write("where")
		w.term(t)
	}
	if q.Group != -1 {
		w.write("group")
		w.term(q.Group)
	}
	w.items(q.Items)
	w.sorts(q.Sorts)
	if q.Limit != -1 {
		w.write("limit")
		w.number(int64(q.Limit))
	}
}

// wholeRange tells whether a query is of all rows of its table.
func wholeRange(q api.Query) bool { return q.From == leastRow && q.To == greatestRow }

// rangeHasText tells whether a text can say of which rows a query is. The least one is no bound; and the last one is the least only where the first one is.
func rangeHasText(q api.Query) bool {
	return wholeRange(q) || q.From != leastRow
}

// bound gathers a number that may be below 0.
func (w *writing) bound(n int64) {
	if n < 0 {
		w.write("-")
		n = -n
	}
	w.number(n)
}

// items gathers what is shown.
func (w *writing) items(items []api.Item) {
	ahead := "show"
	for _, i := range items {
		w.write(ahead)
		ahead = ","
		if word := wordOfItem(i.Kind); word != "" {
			w.write(word)
		}
		if i.Kind != api.ItemCount {
			w.term(i.Term)
		}
	}
}

// sorts gathers by which columns lines are sorted.
func (w *writing) sorts(sorts []api.Sort) {
	for _, s := range sorts {
		w.write("sort")
		w.number(int64(s.Column))
		if s.Desc {
			w.write("desc")
		}
	}
}

// term gathers the term at a place.
func (w *writing) term(at int) {
	t := w.terms[at]
	switch needs(t.Op) {
	case 0:
		w.single(t)
	case 1:
		w.open(markOfOne(t.Op), func() { w.term(t.L) })
	case 2:
		w.open("(", func() {
			w.term(t.L)
			w.write(markOfTwo(t.Op))
			w.term(t.R)
		})
		w.write(")")
	}
}

// open gathers a bracket or a unary mark, and what stands in it.
func (w *writing) open(mark string, inner func()) {
	if w.deep == api.MaxDeep {
		w.tooDeep = true
		return
	}
	w.write(mark)
	w.deep++
	inner()
	w.deep--
}

// single gathers a number, the row or the value.
func (w *writing) single(t api.Term) {
	switch t.Op {
	case api.QNum:
		w.number(t.Num)
	case api.QRow:
		w.write("row")
	case api.QValue:
		w.write("value")
	}
}
