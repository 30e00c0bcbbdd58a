package seglog

import (
	"slices"
	"strconv"
	"strings"

	"pontoon/api"
	"pontoon/store"
)

// Open answers the log of that name, with all that is whole of it; what a crash tore is cut off.
func Open(s *store.Store, name string, most int) (*Log, api.Errno) {
	if e := ready(s); e != api.OK {
		return nil, e
	}
	if !isName(name) || most < api.MinSegment || most > api.MaxRoom {
		return nil, api.ErrArg
	}
	l := &Log{store: s, name: name, most: most}
	if e := l.load(l.bases()); e != api.OK {
		return nil, e
	}
	l.sure = l.next
	return l, api.OK
}

// ready answers whether a store was made, and is up: there is no file of the empty name, but these errors come first.
func ready(s *store.Store) api.Errno {
	if _, e := s.Size(""); e != api.ErrNone {
		return e
	}
	return api.OK
}

func isName(name string) bool {
	for _, c := range []byte(name) {
		if c < 'a' || c > 'z' {
			return false
		}
	}
	return name != "" && len(name) <= api.MaxLog
}

// file is the name of the segment with that base.
func (l *Log) file(base int64) string {
	return l.name + "." + strconv.FormatInt(base, 10)
}

// bases answers those of all segments that the store has, rising: names rise byte by byte, not as numbers do.
func (l *Log) bases() []int64 {
	var bases []int64
finding:
	for file := range l.store.Names() {
		digits, ok := strings.CutPrefix(file, l.name+".")
		if !ok {
			continue finding
		}
		base, err := strconv.ParseInt(digits, 10, 64)
		// Held against the one name of that base, as ParseInt takes signs, and zeros ahead.
		if err != nil || base < 0 || base > api.MaxNum || file != l.file(base) {
			continue finding
		}
		bases = append(bases, base)
	}
	slices.Sort(bases)
	return bases
}

// create makes the first segment of a new log.
func (l *Log) create() api.Errno {
	l.segments = []segment{{}}
	return l.store.Create(l.file(0))
}

// load looks through all segments, and only then writes to any.
func (l *Log) load(bases []int64) api.Errno {
	if len(bases) == 0 {
		return l.create()
	}
	l.next = bases[0]
	for i, base := range bases {
		if base != l.next {
			return api.ErrSegment
		}
		b, e := l.content(base)
		if e != api.OK {
			return e
		}
		seg, next := scan(base, b)
		if seg.size < len(b) && i < len(bases)-1 {
			return api.ErrSegment
		}
		l.segments, l.next = append(l.segments, seg), next
	}
	return l.settle()
}

// content answers all bytes of the segment with that base.
func (l *Log) content(base int64) ([]byte, api.Errno) {
	size, e := l.store.Size(l.file(base))
	if e != api.OK {
		return nil, e
	}
	return l.store.Read(l.file(base), 0, size)
}

// settle has each segment be sure, and be its whole frames: a Cut is a Sync too, also where nothing is to be cut off.
// Those ahead of the last one have nothing pending, unless somebody else wrote them.
func (l *Log) settle() api.Errno {
	for _, seg := range l.segments {
		if e := l.store.Cut(l.file(seg.base), seg.size); e != api.OK {
			return e
		}
	}
	return api.OK
}
