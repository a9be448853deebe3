package query

import (
	"math"

	"prelude/api"
)

// The first and the last row of the greatest range.
const (
	leastRow    = math.MinInt64
	greatestRow = math.MaxInt64
)

// rangeFits tells whether a query's table and rows are some.
func rangeFits(q api.Query) bool {
	return 0 <= q.Table && q.Table <= api.MaxTable && q.From <= q.To
}

// sizesFit tells whether none of a query's lists is too long.
func sizesFit(q api.Query) bool {
	return len(q.Terms) <= api.MaxTerms && max(len(q.Where), len(q.Items), len(q.Sorts)) <= api.MaxItems
}

// termsFit tells whether a query's terms are trees, each of which belongs to just one of its parts.
func termsFit(q api.Query) bool {
	naming := naming{times: make([]int, len(q.Terms))}
	for at, t := range q.Terms {
		if !fieldsFit(t) {
			return false
		}
		naming.name(at, partsOf(t)...)
	}
	naming.name(len(q.Terms), rootsOf(q)...)
	return naming.once()
}

// fieldsFit tells whether a term's kind is one, and only what that uses is not 0.
func fieldsFit(t api.Term) bool {
	parts := needs(t.Op)
	switch {
	case parts < 0, t.Num < 0, parts < 1 && t.L != 0, parts < 2 && t.R != 0:
		return false
	}
	return t.Op == api.QNum || t.Num == 0
}

// partsOf is the places of the terms that a term is reckoned from.
func partsOf(t api.Term) []int {
	return []int{t.L, t.R}[:needs(t.Op)]
}

// rootsOf is the places that a query itself names: those of its conditions, its group, its items.
func rootsOf(q api.Query) []int {
	var roots []int
	roots = append(roots, q.Where...)
	if q.Group != -1 {
		roots = append(roots, q.Group)
	}
	for _, i := range q.Items {
		if i.Kind != api.ItemCount {
			roots = append(roots, i.Term)
		}
	}
	return roots
}

// naming counts how often each term is named, and whether a place is named at which none can be.
type naming struct {
	times []int
	wrong bool
}

// name names places that must be ahead of one.
func (n *naming) name(ahead int, places ...int) {
	for _, p := range places {
		if p < 0 || p >= ahead {
			n.wrong = true
		} else {
			n.times[p]++
		}
	}
}

// once tells whether each term is named just once.
func (n *naming) once() bool {
	for _, times := range n.times {
		if times != 1 {
			return false
		}
	}
	return !n.wrong
}

// itemsFit tells whether items are some, and plain ones are among themselves.
func itemsFit(q api.Query) bool {
	plain := 0
	for _, i := range q.Items {
		switch i.Kind {
		case api.ItemTerm:
			plain++
		case api.ItemCount:
			if i.Term != 0 {
				return false
			}
		case api.ItemSum, api.ItemMin, api.ItemMax:
		default:
			return false
		}
	}
	return len(q.Items) > 0 && (plain == 0 || plain == len(q.Items) && q.Group == -1)
}

// sortsFit tells whether a query sorts by columns that it has, and has a limit that may be.
func sortsFit(q api.Query) bool {
	for _, s := range q.Sorts {
		if s.Column < 1 || s.Column > columns(q) {
			return false
		}
	}
	return q.Limit >= -1
}

// columns is how many columns a query's lines have.
func columns(q api.Query) int {
	if q.Group == -1 {
		return len(q.Items)
	}
	return len(q.Items) + 1
}
