package dict

// entry is what is kept of a key, with its neighbours in its partition's order.
type entry[K comparable, V any] struct {
	key    K
	value  V
	part   int
	before *entry[K, V]
	after  *entry[K, V]
}

// line is the entries of a partition, in the order in which they came. They are linked, so that one leaves from amid many without a search.
type line[K comparable, V any] struct {
	first *entry[K, V]
	last  *entry[K, V]
	size  int
}

// add puts an entry behind all others.
func (l *line[K, V]) add(e *entry[K, V]) {
	e.before = l.last
	if l.last == nil {
		l.first = e
	} else {
		l.last.after = e
	}
	l.last = e
	l.size++
}

// drop takes out an entry that stands in the line.
func (l *line[K, V]) drop(e *entry[K, V]) {
	if e.before == nil {
		l.first = e.after
	} else {
		e.before.after = e.after
	}
	if e.after == nil {
		l.last = e.before
	} else {
		e.after.before = e.before
	}
	l.size--
}
