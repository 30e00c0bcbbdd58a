package task

import (
	"cmp"
	"maps"
	"slices"

	"pontoon/api"
)

// shelf is what an operator keeps of each key. It is a map, so that a record costs a few steps, however many keys there are.
type shelf struct {
	states map[int64]api.KeyState
	peak   int // how many there were at most since the map was made
}

// newShelf answers a shelf with these, in memory of its own.
func newShelf(l []api.KeyState) shelf {
	if len(l) == 0 {
		return shelf{}
	}
	states := make(map[int64]api.KeyState, len(l))
	for _, k := range l {
		states[k.Key] = k
	}
	return shelf{states: states, peak: len(l)}
}

// of answers what there is of that key, one or none.
func (s *shelf) of(key int64) []api.KeyState {
	if k, found := s.states[key]; found {
		return []api.KeyState{k}
	}
	return nil
}

// put has there be of that key what l has, one or none.
func (s *shelf) put(key int64, l []api.KeyState) {
	if len(l) > 0 {
		if s.states == nil {
			s.states = map[int64]api.KeyState{}
		}
		s.states[key] = l[0]
		s.peak = max(s.peak, len(s.states))
		return
	}
	delete(s.states, key)
	// A map never gives up the memory of what was deleted: so it is made anew when half of all are gone, and not sooner, lest that cost more than a few steps for each.
	if 2*len(s.states) < s.peak {
		*s = newShelf(s.list())
	}
}

// list answers all of them, by rising keys, in memory of its own.
func (s *shelf) list() []api.KeyState {
	return slices.SortedFunc(maps.Values(s.states), func(a, b api.KeyState) int { return cmp.Compare(a.Key, b.Key) })
}
