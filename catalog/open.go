package catalog

import (
	"pontoon/api"
	"pontoon/frame"
	"pontoon/manifest"
	"pontoon/snap"
)

// read takes what there is from the store's files, and takes away what is of no use.
func (c *Catalog) read() api.Errno {
	for k := range files(c.store, unfinished) {
		c.remove(k, unfinished)
	}
	if e := c.readPublished(); e != api.OK {
		return e
	}
	if e := c.readBegun(); e != api.OK {
		return e
	}
	c.removeLonely()
	return api.OK
}

// readPublished takes those that are published, each of which has to be whole.
func (c *Catalog) readPublished() api.Errno {
	fault := api.OK
reading:
	for k := range files(c.store, published) {
		m, is := c.manifest(k, published)
		if !is {
			fault = api.ErrCatalog
			break reading
		}
		if _, _, e := c.load(m); e != api.OK {
			fault = api.ErrCatalog
			break reading
		}
		c.published = append(c.published, m)
	}
	c.sort()
	return fault
}

// readBegun takes the first one that can go on; no more than one is ever begun.
func (c *Catalog) readBegun() api.Errno {
	fault := api.OK
reading:
	for k := range files(c.store, waiting) {
		m, is := c.manifest(k, waiting)
		if !is || m.Graph != c.sum || c.begun != nil || c.has(k, published) || !c.has(k, pieces) {
			c.remove(k, waiting)
			continue reading
		}
		if fault = c.goOn(m); fault != api.OK {
			break reading
		}
	}
	return fault
}

// goOn has m's checkpoint be begun, with the pieces that it has.
func (c *Catalog) goOn(m api.Manifest) api.Errno {
	k := manifest.Key(m)
	b, e := c.content(k, pieces)
	if e != api.OK {
		return e
	}
	there, end := 0, 0
fitting:
	for behind, load := range frame.All(b) {
		if there == len(m.Pieces) || !snap.Fits(m.Pieces[there], load) {
			break fitting
		}
		there, end = there+1, behind
	}
	c.begun = &begun{manifest: m, there: there}
	if end < len(b) {
		return c.store.Cut(file(k, pieces), end)
	}
	return c.store.Sync(file(k, pieces))
}

// removeLonely takes away pieces of which no manifest tells.
func (c *Catalog) removeLonely() {
	for k := range files(c.store, pieces) {
		if !c.has(k, published) && !c.has(k, waiting) {
			c.remove(k, pieces)
		}
	}
}
