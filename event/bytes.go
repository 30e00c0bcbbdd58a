package event

import (
	"math"

	"pontoon/api"
	"pontoon/pack"
)

// Put answers b and e's bytes behind it; of an event that may not be b alone.
func Put(b []byte, e api.Event) []byte {
	return pack.Int(b, addNumbers(nil, e)...)
}

// Take reads an event; it is zero, if u has an error then.
func Take(u *pack.Unpacker) api.Event {
	var e api.Event
	switch u.Int(api.EvRecord, api.EvBarrier) {
	case api.EvRecord:
		r := takeRecord(u)
		e = Record(r.Key, r.Val)
	case api.EvBarrier:
		e = Barrier(u.Int(1, api.MaxNum))
	}
	if u.Err() != api.OK {
		return api.Event{}
	}
	return e
}

// Bytes answers the bytes of these events.
func Bytes(l ...api.Event) ([]byte, api.Errno) {
	for _, e := range l {
		if fault := Check(e); fault != api.OK {
			return nil, fault
		}
	}
	if len(l) > api.MaxEvents {
		return nil, api.ErrLong
	}
	// Put copies all that is ahead of it, so that the numbers of all events are put at once.
	numbers := []int64{int64(len(l))}
	for _, e := range l {
		numbers = addNumbers(numbers, e)
	}
	return pack.Int(nil, numbers...), api.OK
}

// Parse answers the events whose bytes b is.
func Parse(b []byte) ([]api.Event, api.Errno) {
	u := pack.Open(b)
	var l []api.Event
	// The list grows as it is read: the number ahead of it may tell of more than there is.
	for left := u.Int(0, api.MaxEvents); left > 0 && u.Err() == api.OK; left-- {
		l = append(l, Take(u))
	}
	if fault := u.Close(); fault != api.OK {
		return nil, fault
	}
	return l, api.OK
}

// RecordBytes answers the bytes of r, which no Kind stands ahead of.
func RecordBytes(r api.Record) []byte {
	return pack.Int(nil, r.Key, r.Val)
}

// ParseRecord answers the record whose bytes b is.
func ParseRecord(b []byte) (api.Record, api.Errno) {
	u := pack.Open(b)
	r := takeRecord(u)
	if fault := u.Close(); fault != api.OK {
		return api.Record{}, fault
	}
	return r, api.OK
}

// addNumbers appends the numbers of which e's bytes are made: none, if it may not be.
func addNumbers(l []int64, e api.Event) []int64 {
	switch {
	case Check(e) != api.OK:
		return l
	case e.Kind == api.EvRecord:
		return append(l, api.EvRecord, e.Record.Key, e.Record.Val)
	}
	return append(l, api.EvBarrier, e.Id)
}

func takeRecord(u *pack.Unpacker) api.Record {
	key := u.Int(math.MinInt64, math.MaxInt64)
	val := u.Int(math.MinInt64, math.MaxInt64)
	return api.Record{Key: key, Val: val}
}
