package vault

import (
	"pontoon/api"
	"pontoon/frame"
	"pontoon/sink"
	"pontoon/store"
)

// Open answers the vault that the store's files keep; what a crash left unfinished is taken away.
func Open(s *store.Store, parts int) (*Vault, api.Errno) {
	if e := ready(s); e != api.OK {
		return nil, e
	}
	none, e := sink.New(parts)
	if e != api.OK {
		return nil, e
	}
	v := &Vault{store: s, sink: none}
	if has(s, fileNew) {
		if e := s.Remove(fileNew); e != api.OK {
			return nil, e
		}
	}
	if has(s, fileAll) {
		if e := v.loadAll(parts); e != api.OK {
			return nil, e
		}
	}
	if e := v.openLog(); e != api.OK {
		return nil, e
	}
	return v, api.OK
}

// ready answers whether a store was made, and is up: there is no file of the empty name, but these errors come first.
func ready(s *store.Store) api.Errno {
	if _, e := s.Size(""); e != api.ErrNone {
		return e
	}
	return api.OK
}

// has tells whether a store that is up has a file of that name.
func has(s *store.Store, name string) bool {
	_, e := s.Size(name)
	return e == api.OK
}

// content answers all bytes of a file.
func content(s *store.Store, name string) ([]byte, api.Errno) {
	size, e := s.Size(name)
	if e != api.OK {
		return nil, e
	}
	return s.Read(name, 0, size)
}

// loadAll takes the sink, and the last note's number, from the file that has all.
func (v *Vault) loadAll(parts int) api.Errno {
	b, e := content(v.store, fileAll)
	if e != api.OK {
		return e
	}
	load, size, e := frame.Take(b)
	if e != api.OK || size < len(b) {
		return api.ErrVault
	}
	// Under one epoch more may be done than ParseSink takes: what was kept of that has to be read again all the same.
	k, e := parse(load, api.MaxFrame, reader.kept)
	if e != api.OK {
		return api.ErrVault
	}
	made, e := sink.From(parts, k.sink)
	if e != api.OK {
		return api.ErrVault
	}
	v.sink, v.last = made, k.number
	return api.OK
}

// kept is what the file that has all tells.
type kept struct {
	number int64
	sink   api.Sink
}

func (r reader) kept() kept {
	return kept{number: r.Int(0, api.MaxNum), sink: r.sink()}
}

// openLog makes the log, or has it be sure, and be its whole frames, ahead of doing what it says.
func (v *Vault) openLog() api.Errno {
	if !has(v.store, fileLog) {
		return v.store.Create(fileLog)
	}
	b, e := content(v.store, fileLog)
	if e != api.OK {
		return e
	}
	_, end, _ := frame.Scan(b)
	// A Cut is a Sync too, also where nothing is to be cut off.
	if e := v.store.Cut(fileLog, end); e != api.OK {
		return e
	}
	return v.replay(b[:end])
}

// replay does what the notes say that are above what is kept already.
func (v *Vault) replay(log []byte) api.Errno {
	fault, before := api.OK, int64(0)
reading:
	for n, ok := range notes(log) {
		switch {
		case !ok, v.notes == 0 && n.number > v.last+1, v.notes > 0 && n.number != before+1:
			fault = api.ErrVault
			break reading
		case n.number > v.last:
			n.do(v.sink)
			v.last = n.number
		}
		v.notes, before = v.notes+1, n.number
	}
	return fault
}
