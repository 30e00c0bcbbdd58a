package vault

import (
	"math"

	"pontoon/api"
	"pontoon/pack"
)

const maxList = 1 << 13 // items of a list that is parsed

// TxnBytes answers a transaction's form.
func TxnBytes(t api.Txn) []byte {
	return pack.Int(nil, addTxn(nil, t)...)
}

// ParseTxn answers the transaction of that form.
func ParseTxn(b []byte) (api.Txn, api.Errno) {
	return parse(b, maxList, reader.txn)
}

// SinkBytes answers a sink's form.
func SinkBytes(s api.Sink) []byte {
	return pack.Int(nil, addSink(nil, s)...)
}

// ParseSink answers the sink of that form.
func ParseSink(b []byte) (api.Sink, api.Errno) {
	return parse(b, maxList, reader.sink)
}

// addTxn answers l and the numbers of t's form. Numbers are gathered, and packed all at once, as pack copies what it appends to.
func addTxn(l []int64, t api.Txn) []int64 {
	l = append(l, t.Epoch, t.Id, t.Begin)
	l = addRecords(l, t.Records)
	return addInts(l, t.Vector)
}

func addSink(l []int64, s api.Sink) []int64 {
	l = append(l, s.Fence)
	l = addRecords(l, s.Out)
	l = addInts(l, s.Vector)
	l = addInts(l, s.Done)
	l = append(l, int64(len(s.Pre)))
	for _, t := range s.Pre {
		l = addTxn(l, t)
	}
	return l
}

func addRecords(l []int64, records []api.Record) []int64 {
	l = append(l, int64(len(records)))
	for _, r := range records {
		l = append(l, r.Key, r.Val)
	}
	return l
}

func addInts(l, ints []int64) []int64 {
	l = append(l, int64(len(ints)))
	return append(l, ints...)
}

// reader reads a form from the left. With an error of its unpacker it reads no more, and what it answers is of no use.
type reader struct {
	*pack.Unpacker
	most int64 // items that a list may have
}

// parse answers what has the form b as a whole, with no list of more items than most.
func parse[T any](b []byte, most int64, whole func(reader) T) (T, api.Errno) {
	r := reader{pack.Open(b), most}
	x := whole(r)
	if e := r.Close(); e != api.OK {
		var none T
		return none, e
	}
	return x, api.OK
}

// list reads how many there are, and each of them by one.
func list[T any](r reader, one func(reader) T) []T {
	// It grows as it is read: the number ahead of it may tell of more than there is.
	var l []T
items:
	for left := r.Int(0, r.most); left > 0; left-- {
		switch x := one(r); r.Err() {
		case api.OK:
			l = append(l, x)
		default:
			break items
		}
	}
	return l
}

func (r reader) number() int64 {
	return r.Int(math.MinInt64, math.MaxInt64)
}

func (r reader) record() api.Record {
	return api.Record{Key: r.number(), Val: r.number()}
}

// txn names its fields in the form's order, and so does sink: they are read as they stand there.
func (r reader) txn() api.Txn {
	return api.Txn{
		Epoch:   r.number(),
		Id:      r.number(),
		Begin:   r.number(),
		Records: list(r, reader.record),
		Vector:  list(r, reader.number),
	}
}

func (r reader) sink() api.Sink {
	return api.Sink{
		Fence:  r.number(),
		Out:    list(r, reader.record),
		Vector: list(r, reader.number),
		Done:   list(r, reader.number),
		Pre:    list(r, reader.txn),
	}
}
