package store

import (
	"slices"
	"sort"

	"prelude/api"
)

// chain is a key's versions. The oldest stands first here, so that a new one comes behind all others; places and numbers both rise, so that one is found by halving.
type chain struct{ line []*version }

// newest is the newest version; a chain that is kept has one.
func (c *chain) newest() *version { return c.line[len(c.line)-1] }

// add puts a version at the head.
func (c *chain) add(v *version) { c.line = append(c.line, v) }

// before is the number of the next older version, 0 if there is none.
func (c *chain) before(v *version) int { return c.numberAhead(c.at(v)) }

// visible is the number of the newest version that is not above a batch, 0 if there is none.
func (c *chain) visible(batch int) int {
	above := sort.Search(len(c.line), func(i int) bool { return c.line[i].Batch > batch })
	return c.numberAhead(above)
}

// drop takes out a version of the chain. What is let go is mostly old: so the side that has fewer versions closes up.
func (c *chain) drop(v *version) {
	at := c.at(v)
	if at >= len(c.line)/2 {
		c.line = slices.Delete(c.line, at, at+1)
		return
	}
	copy(c.line[1:at+1], c.line[:at])
	c.line[0] = nil // or the list would hold on to it
	c.line = c.line[1:]
}

// told is the versions as they are handed out, the newest first.
func (c *chain) told() []api.Version {
	list := make([]api.Version, 0, len(c.line))
	for _, v := range slices.Backward(c.line) {
		list = append(list, v.told())
	}
	return list
}

// at is the place in the list of a version of the chain.
func (c *chain) at(v *version) int {
	return sort.Search(len(c.line), func(i int) bool { return c.line[i].number >= v.number })
}

// numberAhead is the number of the version ahead of a place in the list, 0 if there is none.
func (c *chain) numberAhead(at int) int {
	if at == 0 {
		return 0
	}
	return c.line[at-1].number
}
