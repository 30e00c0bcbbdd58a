package store

import (
	"bytes"
	"slices"
)

// file has its content as it is read, with all its pending writes, the oldest of these first.
type file struct {
	content []byte
	pending []write
}

// write is a pending write: it stands in its file's content already, and keeps what it covered there, so that it can be taken back.
// To read and to write then takes no longer than the bytes that are touched.
type write struct {
	turn    int // its place in the one order over all files
	at      int
	size    int
	covered []byte // fewer than size, if it went beyond the end
}

// put makes a pending write of b, which may not begin behind the end.
func (f *file) put(turn, at int, b []byte) {
	over := min(len(b), len(f.content)-at)
	f.pending = append(f.pending, write{turn, at, len(b), bytes.Clone(f.content[at : at+over])})
	copy(f.content[at:], b[:over])
	f.content = append(f.content, b[over:]...)
}

// takeBack undoes w but for its first bytes, in content to which w was the last write.
func (w write) takeBack(content []byte, first int) []byte {
	if first < len(w.covered) {
		copy(content[w.at+first:], w.covered[first:])
	}
	if len(w.covered) < w.size {
		content = content[:w.at+max(first, len(w.covered))]
	}
	return content
}

// sure answers a copy of the content without the pending writes.
func (f *file) sure() []byte {
	content := bytes.Clone(f.content)
	for _, w := range slices.Backward(f.pending) {
		content = w.takeBack(content, 0)
	}
	return content
}

// clone may share what writes covered: nobody ever writes to that.
func (f *file) clone() *file {
	return &file{content: bytes.Clone(f.content), pending: slices.Clone(f.pending)}
}
