package seglog

import (
	"iter"

	"pontoon/api"
	"pontoon/frame"
)

// Base is the first segment's base.
func (l *Log) Base() int64 {
	if !l.made() {
		return 0
	}
	return l.segments[0].base
}

// Next is the offset behind the last record.
func (l *Log) Next() int64 {
	if !l.made() {
		return 0
	}
	return l.next
}

// Sure is the offset behind the last record that was made sure.
func (l *Log) Sure() int64 {
	if !l.made() {
		return 0
	}
	return l.sure
}

// Segments is how many there are.
func (l *Log) Segments() int {
	if !l.made() {
		return 0
	}
	return len(l.segments)
}

// Read answers a record.
func (l *Log) Read(at int64) ([]byte, api.Errno) {
	if !l.made() {
		return nil, api.ErrMade
	}
	if e := ready(l.store); e != api.OK {
		return nil, e
	}
	switch {
	case at < l.Base():
		return nil, api.ErrGone
	case at >= l.next:
		return nil, api.ErrNone
	}
	b, _, e := l.find(at)
	if e != api.OK {
		return nil, e
	}
	record, _, e := frame.Take(b)
	return record, e
}

// find answers bytes that begin with the frame of the record at, and their place in its segment.
func (l *Log) find(at int64) ([]byte, int, api.Errno) {
	seg := &l.segments[l.holder(at)]
	place, to, ahead := seg.window(at)
	b, e := l.between(seg, place, to)
	if e != api.OK {
		return nil, 0, e
	}
	for range ahead {
		_, size, e := frame.Take(b)
		if e != api.OK {
			return nil, 0, e
		}
		b, place = b[size:], place+size
	}
	return b, place, api.OK
}

// between answers a segment's bytes from one place to another one, as far as its file has them: it lacks some, if it was torn since.
func (l *Log) between(seg *segment, from, to int) ([]byte, api.Errno) {
	file := l.file(seg.base)
	size, e := l.store.Size(file)
	if e != api.OK {
		return nil, e
	}
	return l.store.Read(file, from, min(to, size)-from)
}

// piece is frames of records, from that of the offset first to that ahead of end.
type piece struct {
	first  int64
	end    int64
	frames []byte
}

// All goes through the offsets and records that there are now, from an offset on.
func (l *Log) All(from int64) iter.Seq2[int64, []byte] {
	var pieces []piece
	if l.made() {
		from = max(from, l.Base())
		pieces = l.pieces(from)
	}
	return func(yield func(int64, []byte) bool) {
	telling:
		for _, p := range pieces {
			at := p.first
			for _, record := range frame.All(p.frames) {
				if at >= from && !yield(at, record) {
					break telling
				}
				at++
				if at == p.end {
					continue telling
				}
			}
			// A file that was torn since: what stands in the next ones does not follow.
			break telling
		}
	}
}

// pieces answers a copy of all frames from that of the record from on (and of few ones ahead of it), as far as they can be read.
func (l *Log) pieces(from int64) []piece {
	var pieces []piece
reading:
	for i := range l.segments {
		seg, end := &l.segments[i], l.end(i)
		if end <= from || end == seg.base {
			continue reading
		}
		first := max(from, seg.base)
		place, _, ahead := seg.window(first)
		b, e := l.between(seg, place, seg.size)
		if e != api.OK {
			break reading
		}
		pieces = append(pieces, piece{first - int64(ahead), end, b})
	}
	return pieces
}
