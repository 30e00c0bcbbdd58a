package catalog

import (
	"iter"

	"pontoon/api"
	"pontoon/manifest"
	"pontoon/sink"
)

// ready answers the errors that come ahead of all others.
func (c *Catalog) ready() api.Errno {
	if !c.made() {
		return api.ErrMade
	}
	return ready(c.store)
}

func (c *Catalog) made() bool {
	return c != nil && c.store != nil
}

// find answers the manifest of the published one with that key, if there is one.
func (c *Catalog) find(k api.TxnKey) (api.Manifest, bool) {
	for _, m := range c.published {
		if manifest.Key(m) == k {
			return m, true
		}
	}
	return api.Manifest{}, false
}

// Next answers which piece of a checkpoint is wanted: -1, if it is published.
func (c *Catalog) Next(k api.TxnKey) (int, api.Errno) {
	if !c.made() {
		return 0, api.ErrMade
	}
	if _, is := c.find(k); is {
		return -1, api.OK
	}
	if c.begun != nil && manifest.Key(c.begun.manifest) == k {
		return c.begun.there, api.OK
	}
	return 0, api.ErrNone
}

// All goes through those that are published now, rising.
func (c *Catalog) All() iter.Seq2[api.TxnKey, api.Manifest] {
	var l []api.Manifest
	if c.made() {
		l = copied(c.published)
	}
	return func(yield func(api.TxnKey, api.Manifest) bool) {
	telling:
		for _, m := range l {
			// Each time a clone, as the range may be done again.
			if !yield(manifest.Key(m), manifest.Clone(m)) {
				break telling
			}
		}
	}
}

// Latest answers the last one of those that are published, if one is.
func (c *Catalog) Latest() (api.Manifest, bool) {
	if !c.made() || len(c.published) == 0 {
		return api.Manifest{}, false
	}
	return manifest.Clone(c.published[len(c.published)-1]), true
}

// Get answers a published one's manifest, and its state.
func (c *Catalog) Get(k api.TxnKey) (api.Manifest, api.FlowState, api.Errno) {
	m, _, state, e := c.get(k)
	return m, state, e
}

// Pieces answers a published one's pieces.
func (c *Catalog) Pieces(k api.TxnKey) ([][]byte, api.Errno) {
	_, l, _, e := c.get(k)
	return l, e
}

// get answers all that there is of a published one.
func (c *Catalog) get(k api.TxnKey) (api.Manifest, [][]byte, api.FlowState, api.Errno) {
	if e := c.ready(); e != api.OK {
		return api.Manifest{}, nil, api.FlowState{}, e
	}
	m, is := c.find(k)
	if !is {
		return api.Manifest{}, nil, api.FlowState{}, api.ErrNone
	}
	l, state, e := c.load(m)
	if e != api.OK {
		return api.Manifest{}, nil, api.FlowState{}, e
	}
	return manifest.Clone(m), l, state, api.OK
}

// Above takes away all whose vectors that one is not above, and answers how many of these were published.
func (c *Catalog) Above(vector []int64) (int, api.Errno) {
	if e := c.ready(); e != api.OK {
		return 0, e
	}
	if c.begun != nil && !sink.Above(vector, c.begun.manifest.Vector) {
		c.dropBegun()
	}
	var stay []api.Manifest
	for _, m := range c.published {
		if sink.Above(vector, m.Vector) {
			stay = append(stay, m)
		} else {
			c.drop(m)
		}
	}
	gone := len(c.published) - len(stay)
	c.published = stay
	return gone, api.OK
}
