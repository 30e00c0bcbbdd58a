package task

import "pontoon/api"

// buffer is records in order, of any number.
type buffer struct {
	records []api.Record
	taken   int // how many first ones of records are gone
}

// newBuffers answers buffers with these records, in memory of their own.
func newBuffers(lists [][]api.Record) []buffer {
	var l []buffer
	for _, records := range lists {
		l = append(l, buffer{records: copied(records)})
	}
	return l
}

// rest is the records that are there.
func (b *buffer) rest() []api.Record {
	return b.records[b.taken:]
}

func (b *buffer) put(r api.Record) {
	b.records = append(b.records, r)
}

// drop takes the first record away.
func (b *buffer) drop() {
	b.taken++
	// The others move up only when half of all are gone: a record costs a few steps then, however many there are, and what is gone takes no more memory than what is there.
	if 2*b.taken >= len(b.records) {
		b.records, b.taken = copied(b.rest()), 0
	}
}

// copied is these records in memory of their own. (Of none slices.Clone would answer a piece of the old memory, which would stay for it.)
func copied(l []api.Record) []api.Record {
	return append([]api.Record(nil), l...)
}
