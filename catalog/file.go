package catalog

import (
	"iter"
	"strconv"
	"strings"

	"pontoon/api"
	"pontoon/frame"
	"pontoon/manifest"
	"pontoon/store"
)

// Endings of the files' names.
const (
	pieces     = ".d"
	published  = ".m"
	waiting    = ".p" // the manifest of the one that is begun
	unfinished = ".t"
)

const prefix = "ck."

// ready answers whether a store was made, and is up: there is no file of the empty name, but these errors come first.
func ready(s *store.Store) api.Errno {
	if _, e := s.Size(""); e != api.ErrNone {
		return e
	}
	return api.OK
}

// file is the name of a checkpoint's file with that ending.
func file(k api.TxnKey, ending string) string {
	return prefix + strconv.FormatInt(k.Epoch, 10) + "." + strconv.FormatInt(k.Id, 10) + ending
}

// keyOf answers whose file with that ending has that name, if it is one's.
func keyOf(name, ending string) (api.TxnKey, bool) {
	epoch, id, _ := strings.Cut(strings.TrimSuffix(strings.TrimPrefix(name, prefix), ending), ".")
	k := api.TxnKey{Epoch: number(epoch), Id: number(id)}
	// Numbers are read in more forms than they are written in: one name is made of a key.
	if k.Epoch == 0 || k.Id == 0 || file(k, ending) != name {
		return api.TxnKey{}, false
	}
	return k, true
}

// number answers the number that a key may have, or 0.
func number(digits string) int64 {
	n, err := strconv.ParseInt(digits, 10, 64)
	if err != nil || n < 1 || n > api.MaxNum {
		return 0
	}
	return n
}

// files goes through the checkpoints' files with that ending, by their names: of each, whose it is.
func files(s *store.Store, ending string) iter.Seq[api.TxnKey] {
	return func(yield func(api.TxnKey) bool) {
	telling:
		for name := range s.Names() {
			switch k, is := keyOf(name, ending); {
			case !is:
				continue telling
			case !yield(k):
				break telling
			}
		}
	}
}

// has tells whether that checkpoint has a file with that ending.
func (c *Catalog) has(k api.TxnKey, ending string) bool {
	_, e := c.store.Size(file(k, ending))
	return e == api.OK
}

// remove takes a file away. There may be none: then there is nothing to be done.
func (c *Catalog) remove(k api.TxnKey, ending string) {
	c.store.Remove(file(k, ending))
}

// content answers all bytes of a file.
func (c *Catalog) content(k api.TxnKey, ending string) ([]byte, api.Errno) {
	size, e := c.store.Size(file(k, ending))
	if e != api.OK {
		return nil, e
	}
	return c.store.Read(file(k, ending), 0, size)
}

// manifest answers the manifest with that key that a file is, as a whole, if it is one.
func (c *Catalog) manifest(k api.TxnKey, ending string) (api.Manifest, bool) {
	b, e := c.content(k, ending)
	if e != api.OK {
		return api.Manifest{}, false
	}
	load, size, e := frame.Take(b)
	if e != api.OK || size < len(b) {
		return api.Manifest{}, false
	}
	m, e := manifest.Parse(load)
	return m, e == api.OK && manifest.Key(m) == k
}

// load answers the pieces of m's checkpoint that the store has, and the state that they are.
func (c *Catalog) load(m api.Manifest) ([][]byte, api.FlowState, api.Errno) {
	b, e := c.content(manifest.Key(m), pieces)
	if e != api.OK {
		return nil, api.FlowState{}, e
	}
	l, end, _ := frame.Scan(b)
	state, e := manifest.Open(c.graph, m, l...)
	if e == api.OK && end < len(b) {
		e = api.ErrCatalog
	}
	if e != api.OK {
		return nil, api.FlowState{}, e
	}
	return l, state, api.OK
}
