package crew

import (
	"prelude/api"
	"prelude/keys"
)

// spot is a version that a transaction reads or fills: its number on its key's shelf, 0 until it is laid, or if there is none.
type spot struct {
	*shelf
	number int
}

// spots is one spot for each key, on the shelf of its partition.
func spots(set []api.Key, shelves []*shelf) []spot {
	list := make([]spot, len(set))
	for i, k := range set {
		part, _ := keys.Partition(k, len(shelves))
		list[i].shelf = shelves[part]
	}
	return list
}

// leaves is a version with the cell that a put leaves there: where it keeps what stood there, that is the version below. (A program that has failed keeps all its writes.)
func (o spot) leaves(put api.Put) api.Version {
	switch put.Kind {
	case api.Set:
		return api.Version{Filled: true, Cell: api.Cell{Is: true, Value: put.Value}}
	case api.Gone:
		return api.Version{Filled: true}
	}
	return o.before(o.number)
}
