package dict

import "iter"

// pair is a key and the value that it had at some moment.
type pair[K comparable, V any] struct {
	key   K
	value V
}

// Size is how many keys a partition has.
func (d *Dict[K, V]) Size(part int) int { return d.line(part).size }

// Keys is a partition's keys.
func (d *Dict[K, V]) Keys(part int) []K {
	l := d.line(part)
	list := make([]K, 0, l.size)
	for e := l.first; e != nil; e = e.after {
		list = append(list, e.key)
	}
	return list
}

// Each goes through a partition, as it is now: the iterator has a list of its own, which nothing that is done later reaches.
func (d *Dict[K, V]) Each(part int) iter.Seq2[K, V] {
	l := d.line(part)
	list := make([]pair[K, V], 0, l.size)
	for e := l.first; e != nil; e = e.after {
		list = append(list, pair[K, V]{e.key, e.value})
	}
	return func(yield func(K, V) bool) {
		for _, p := range list {
			if !yield(p.key, p.value) {
				return
			}
		}
	}
}

// line is a partition's line; an empty one, if there is no such partition.
func (d *Dict[K, V]) line(part int) line[K, V] {
	if part < 0 || part >= len(d.lines) {
		return line[K, V]{}
	}
	return d.lines[part]
}
