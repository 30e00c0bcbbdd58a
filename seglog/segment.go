package seglog

import (
	"pontoon/api"
	"pontoon/frame"
)

// segment is a file of frames, as far as the log knows it.
// Of its records the first one's place is noted, and each Sparse-th one's behind it, so that a record is found by reading few frames.
type segment struct {
	base   int64
	size   int
	places []int
}

// scan answers a segment of the whole frames with which b begins, and the offset behind their last record.
func scan(base int64, b []byte) (segment, int64) {
	s, next := segment{base: base}, base
	for end := range frame.All(b) {
		s.add(next, end-s.size)
		next++
	}
	return s, next
}

// add puts the record of that offset, whose frame has so many bytes, behind the others.
func (s *segment) add(offset int64, size int) {
	if (offset-s.base)%api.Sparse == 0 {
		s.note(s.size)
	}
	s.size += size
}

// note copies the places ahead of growing, so that they leave behind the memory of those that were cut off.
func (s *segment) note(place int) {
	if len(s.places) == cap(s.places) {
		roomy := make([]int, len(s.places), 2*len(s.places)+1)
		copy(roomy, s.places)
		s.places = roomy
	}
	s.places = append(s.places, place)
}

// cut takes away all from the record of that offset on, which stands at that place.
func (s *segment) cut(offset int64, place int) {
	noted := (offset - s.base + api.Sparse - 1) / api.Sparse
	s.places = s.places[:noted:noted]
	s.size = place
}

// window answers the places between which the record of that offset stands, and how many others stand there ahead of it.
func (s *segment) window(offset int64) (from, to, ahead int) {
	index := int(offset - s.base)
	i := index / api.Sparse
	from, to = s.places[i], s.size
	if i+1 < len(s.places) {
		to = s.places[i+1]
	}
	return from, to, index % api.Sparse
}
