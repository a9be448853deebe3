package query

import (
	"cmp"
	"iter"
	"slices"

	"prelude/api"
)

// looked goes through the rows that a query looks at: what each of its terms is there. The list is the same one each time.
func looked(q api.Query, rows []api.Row) iter.Seq[[]int64] {
	return func(yield func([]int64) bool) {
		values := make([]int64, len(q.Terms))
		for _, row := range rows {
			if !within(q, row.Key) {
				continue
			}
			reckon(q.Terms, row, values)
			if hold(q.Where, values) && !yield(values) {
				return
			}
		}
	}
}

// within tells whether a key is of a query's table and rows.
func within(q api.Query, k api.Key) bool {
	return k.Table == q.Table && q.From <= k.Row && k.Row <= q.To
}

// hold tells whether no condition is 0.
func hold(where []int, values []int64) bool {
	for _, t := range where {
		if values[t] == 0 {
			return false
		}
	}
	return true
}

// lines is a query's lines, not sorted yet, all of them.
func lines(q api.Query, rows []api.Row) [][]api.Cell {
	switch {
	case q.Items[0].Kind == api.ItemTerm:
		return shown(q, rows)
	case q.Group == -1:
		return [][]api.Cell{gathered(q, rows)}
	}
	return grouped(q, rows)
}

// shown is a line for each row.
func shown(q api.Query, rows []api.Row) [][]api.Cell {
	var list [][]api.Cell
	for values := range looked(q, rows) {
		var line []api.Cell
		for _, i := range q.Items {
			line = append(line, cell(values[i.Term]))
		}
		list = append(list, line)
	}
	return list
}

// gathered is one line of all rows.
func gathered(q api.Query, rows []api.Row) []api.Cell {
	line := ofNoRows(q.Items)
	for values := range looked(q, rows) {
		gather(line, q.Items, values)
	}
	return line
}

// grouped is a line for each group, by rising values.
func grouped(q api.Query, rows []api.Row) [][]api.Cell {
	groups := map[int64][]api.Cell{}
	for values := range looked(q, rows) {
		group := values[q.Group]
		line := groups[group]
		if line == nil {
			line = append([]api.Cell{cell(group)}, ofNoRows(q.Items)...)
			groups[group] = line
		}
		gather(line[1:], q.Items, values)
	}
	var list [][]api.Cell
	for _, line := range groups {
		list = append(list, line)
	}
	return sorted(list, []api.Sort{{Column: 1}})
}

// cell is a value that stands there.
func cell(v int64) api.Cell { return api.Cell{Is: true, Value: v} }

// ofNoRows is what items gather of no rows.
func ofNoRows(items []api.Item) []api.Cell {
	var line []api.Cell
	for _, i := range items {
		line = append(line, api.Cell{Is: i.Kind == api.ItemCount || i.Kind == api.ItemSum})
	}
	return line
}

// gather takes one more row into what items have gathered.
func gather(line []api.Cell, items []api.Item, values []int64) {
	for at, i := range items {
		c := &line[at]
		if i.Kind == api.ItemCount {
			c.Value++
			continue
		}
		v := values[i.Term]
		switch {
		case i.Kind == api.ItemSum:
			c.Value += v
		case !c.Is, i.Kind == api.ItemMin && v < c.Value, i.Kind == api.ItemMax && v > c.Value:
			*c = cell(v)
		}
	}
}

// sorted sorts lines; those that agree stay in their order.
func sorted(list [][]api.Cell, sorts []api.Sort) [][]api.Cell {
	slices.SortStableFunc(list, func(a, b []api.Cell) int {
		for _, s := range sorts {
			c := compare(a[s.Column-1], b[s.Column-1])
			if s.Desc {
				c = -c
			}
			if c != 0 {
				return c
			}
		}
		return 0
	})
	return list
}

// compare is the order of two cells: nothing is ahead of all values.
func compare(a, b api.Cell) int {
	return cmp.Or(cmp.Compare(truth(a.Is), truth(b.Is)), cmp.Compare(a.Value, b.Value))
}

// firstOf is the lines that a limit lets be, in a list without the others behind its end.
func firstOf(limit int, list [][]api.Cell) [][]api.Cell {
	if limit == -1 || limit >= len(list) {
		return list
	}
	return slices.Clone(list[:limit])
}
