package sink

import (
	"slices"

	"pontoon/api"
)

// Plain answers all that the sink keeps.
func (s *Sink) Plain() api.Sink {
	if !s.made() {
		return api.Sink{}
	}
	p := api.Sink{Fence: s.register, Out: slices.Clone(s.out), Vector: slices.Clone(s.vector), Done: slices.Clone(s.done)}
	for _, k := range s.Open() {
		p.Pre = append(p.Pre, cloneTxn(s.open[k]))
	}
	return p
}

// From answers the sink of that Plain.
func From(parts int, s api.Sink) (*Sink, api.Errno) {
	made, err := New(parts)
	if err != api.OK {
		return nil, err
	}
	if !fits(s, parts) {
		return nil, api.ErrArg
	}
	made.register, made.out, made.vector, made.done = s.Fence, slices.Clone(s.Out), slices.Clone(s.Vector), slices.Clone(s.Done)
	for _, t := range s.Pre {
		made.open[name(t)] = cloneTxn(t)
	}
	return made, api.OK
}

// Clone answers a sink that is the same, and goes its own way.
func (s *Sink) Clone() *Sink {
	if !s.made() {
		return nil
	}
	c := &Sink{register: s.register, out: slices.Clone(s.out), vector: slices.Clone(s.vector), done: slices.Clone(s.done), open: map[api.TxnKey]api.Txn{}}
	for k, t := range s.open {
		c.open[k] = cloneTxn(t)
	}
	return c
}

// fits tells whether s is what a sink of so many partitions may tell of itself.
func fits(s api.Sink, parts int) bool {
	return (s.Fence == 0 || isId(s.Fence)) &&
		len(s.Out) <= api.MaxOut &&
		isVector(s.Vector, parts) &&
		rises(s.Done) &&
		fitsOpen(s, parts) &&
		(s.Fence != 0 || untouched(s))
}

// rises tells whether these are Ids, each above the one ahead of it.
func rises(ids []int64) bool {
	last := int64(0)
	for _, id := range ids {
		if id <= last || !isId(id) {
			return false
		}
		last = id
	}
	return true
}

// fitsOpen tells whether what s has pre-committed may be; its Done rises.
func fitsOpen(s api.Sink, parts int) bool {
	if len(s.Pre) > api.MaxOpen {
		return false
	}
	var ids []int64
	for _, t := range s.Pre {
		_, done := slices.BinarySearch(s.Done, t.Id)
		if !mayBe(t, parts) || t.Epoch != s.Fence || done {
			return false
		}
		ids = append(ids, t.Id)
	}
	return rises(ids)
}

// untouched tells whether s is as New made it, but for its Fence.
func untouched(s api.Sink) bool {
	return len(s.Out)+len(s.Done)+len(s.Pre) == 0 && slices.Max(s.Vector) == 0
}
