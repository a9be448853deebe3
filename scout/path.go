package scout

import (
	"iter"
	"slices"

	"prelude/api"
	"prelude/engine"
	"prelude/keys"
)

// along goes over a path's keys, from its Key to its end, or to one at which it can't go on, and why. What stands at those from which it hops it is told by look.
func along(p api.Path, look func(api.Key) api.Cell) iter.Seq2[api.Key, api.Errno] {
	return func(yield func(api.Key, api.Errno) bool) {
		at := p.Key
		for _, hop := range p.Hops {
			here, f := passing(at, look)
			if !yield(at, f) || f != api.OK {
				return
			}
			at = api.Key{Table: hop.Table, Row: here + hop.Off}
		}
		yield(at, keys.Check(at))
	}
}

// passing is the value by which a path hops on from where it is, or why it can't.
func passing(at api.Key, look func(api.Key) api.Cell) (int64, api.Errno) {
	if f := keys.Check(at); f != api.OK {
		return 0, f
	}
	here := look(at)
	if !here.Is {
		return 0, api.ErrLost
	}
	return here.Value, api.OK
}

// scouting goes the paths of a wish.
type scouting struct {
	look   func(api.Key) api.Cell
	passed map[api.Key]int64 // what stands at the keys from which it has hopped
}

// newScouting is a scouting behind a batch that is pinned.
func newScouting(e *engine.Engine, n int) *scouting {
	passed := map[api.Key]int64{}
	look := func(k api.Key) api.Cell {
		if v, known := passed[k]; known { // a path may come by again and again
			return api.Cell{Is: true, Value: v}
		}
		c, _ := e.Read(n, k)
		if c.Is {
			passed[k] = c.Value
		}
		return c
	}
	return &scouting{look: look, passed: passed}
}

// ends is where paths end, or why the first that can't be gone can't.
func (s *scouting) ends(paths []api.Path) ([]api.Key, api.Errno) {
	var list []api.Key
	for _, p := range paths {
		var end api.Key
		for k, f := range along(p, s.look) {
			if f != api.OK {
				return nil, f
			}
			end = k
		}
		list = append(list, end)
	}
	return list, api.OK
}

// guards is the set of what the paths have passed.
func (s *scouting) guards() []api.Key {
	var list []api.Key
	for k := range s.passed {
		list = append(list, k)
	}
	slices.SortFunc(list, keys.Compare)
	return list
}

// valuesAt is what stands at guards.
func (s *scouting) valuesAt(guards []api.Key) []int64 {
	var list []int64
	for _, k := range guards {
		list = append(list, s.passed[k])
	}
	return list
}

// isPinned tells whether a batch is pinned, and takes no step for it.
func isPinned(e *engine.Engine, n int) bool {
	return slices.ContainsFunc(e.View().Pins, func(p api.Pin) bool { return p.Batch == n })
}
