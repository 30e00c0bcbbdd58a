package event_test

import (
	"iter"
	"slices"
	"testing"

	"pontoon/api"
	"pontoon/event"
)

// recs is the records of these numbers, two by two.
func recs(l ...int64) []api.Record {
	var out []api.Record
	for x := range slices.Chunk(l, 2) {
		out = append(out, api.Record{Key: x[0], Val: x[1]})
	}
	return out
}

// told is events, and what Records, Upto and Epochs tell of them.
type told struct {
	name          string
	l             []api.Event
	records, upto []api.Record
	epochs        []epoch
}

func cases() []told {
	a, b, c := record(1, 2), record(3, -1), record(least, most)
	// Their Kinds alone count: neither of these may be.
	odd, oddBarrier := api.Event{Kind: api.EvRecord, Id: 9, Record: api.Record{Key: 5, Val: 6}}, api.Event{Kind: api.EvBarrier, Id: -4, Record: api.Record{Key: 7, Val: 8}}
	none, three := api.Event{Id: 11, Record: api.Record{Key: 9, Val: 9}}, api.Event{Kind: 3, Id: 12, Record: api.Record{Key: 9, Val: 9}}
	return []told{
		{"no events", nil, nil, nil, nil},
		{"an empty list", []api.Event{}, nil, nil, nil},
		{"records alone", []api.Event{a, b, a, c}, recs(1, 2, 3, -1, 1, 2, least, most), recs(1, 2, 3, -1, 1, 2, least, most), []epoch{{0, recs(1, 2, 3, -1, 1, 2, least, most)}}},
		{"a record", []api.Event{a}, recs(1, 2), recs(1, 2), []epoch{{0, recs(1, 2)}}},
		{"a zero record", []api.Event{record(0, 0)}, recs(0, 0), recs(0, 0), []epoch{{0, recs(0, 0)}}},
		{"barriers alone", []api.Event{barrier(3), barrier(2), barrier(2)}, nil, nil, []epoch{{3, nil}, {2, nil}, {2, nil}}},
		{"a barrier", []api.Event{barrier(api.MaxNum)}, nil, nil, []epoch{{api.MaxNum, nil}}},
		{"a barrier last", []api.Event{a, b, barrier(7)}, recs(1, 2, 3, -1), recs(1, 2, 3, -1), []epoch{{7, recs(1, 2, 3, -1)}}},
		{"a barrier first", []api.Event{barrier(7), a, b}, recs(1, 2, 3, -1), nil, []epoch{{7, nil}, {0, recs(1, 2, 3, -1)}}},
		{"barriers one behind the other, records behind", []api.Event{a, barrier(7), barrier(8), b}, recs(1, 2, 3, -1), recs(1, 2), []epoch{{7, recs(1, 2)}, {8, nil}, {0, recs(3, -1)}}},
		{"barriers between records", []api.Event{a, barrier(7), b, c, barrier(8)}, recs(1, 2, 3, -1, least, most), recs(1, 2), []epoch{{7, recs(1, 2)}, {8, recs(3, -1, least, most)}}},
		{"Ids that do not rise", []api.Event{a, barrier(8), b, barrier(7), c}, recs(1, 2, 3, -1, least, most), recs(1, 2), []epoch{{8, recs(1, 2)}, {7, recs(3, -1)}, {0, recs(least, most)}}},
		// A list that grew to three or five has room behind it, which the next one must not stand in.
		{"many records between", []api.Event{a, b, c, barrier(7), a, barrier(8), a, a, b, b, c, barrier(9), b, c}, recs(1, 2, 3, -1, least, most, 1, 2, 1, 2, 1, 2, 3, -1, 3, -1, least, most, 3, -1, least, most), recs(1, 2, 3, -1, least, most), []epoch{{7, recs(1, 2, 3, -1, least, most)}, {8, recs(1, 2)}, {9, recs(1, 2, 1, 2, 3, -1, 3, -1, least, most)}, {0, recs(3, -1, least, most)}}},
		{"neither Kind alone", []api.Event{none, three, {Kind: -1}, {Kind: most}, {Kind: least}}, nil, nil, nil},
		{"neither Kind behind the last barrier", []api.Event{a, barrier(7), three, none}, recs(1, 2), recs(1, 2), []epoch{{7, recs(1, 2)}}},
		{"neither Kind first", []api.Event{three, none, a, barrier(7)}, recs(1, 2), recs(1, 2), []epoch{{7, recs(1, 2)}}},
		{"neither Kind among them", []api.Event{a, none, b, three, barrier(7), none, three, c, none}, recs(1, 2, 3, -1, least, most), recs(1, 2, 3, -1), []epoch{{7, recs(1, 2, 3, -1)}, {0, recs(least, most)}}},
		{"events that may not be", []api.Event{odd, oddBarrier, a, odd, barrier(0), b}, recs(5, 6, 1, 2, 5, 6, 3, -1), recs(5, 6), []epoch{{-4, recs(5, 6)}, {0, recs(1, 2, 5, 6)}, {0, recs(3, -1)}}},
		{"barriers without a number", []api.Event{barrier(0), barrier(0), barrier(api.MaxNum + 1)}, nil, nil, []epoch{{0, nil}, {0, nil}, {api.MaxNum + 1, nil}}},
	}
}

func TestP63Told(t *testing.T) {
	for _, x := range cases() {
		if got := slices.Collect(event.Records(x.l...)); !slices.Equal(got, x.records) {
			t.Errorf("%s: Records = %v", x.name, got)
		}
		if got := slices.Collect(event.Upto(x.l...)); !slices.Equal(got, x.upto) {
			t.Errorf("%s: Upto = %v", x.name, got)
		}
		if got := collectEpochs(x.l...); !sameEpochs(got, x.epochs) {
			t.Errorf("%s: Epochs = %v", x.name, got)
		}
		checkEvents(t, x.l)
	}
}

func TestP65PartedAndJoined(t *testing.T) {
	for _, x := range cases() {
		if got := joined(collectEpochs(x.l...)); !slices.Equal(got, slices.Collect(event.Records(x.l...))) {
			t.Errorf("%s: Epochs tells %v", x.name, got)
		}
	}
}

// TestP63LeftEarly leaves each iterator at each place, and goes through it again behind that.
func TestP63LeftEarly(t *testing.T) {
	for _, x := range cases() {
		records, upto, epochs := event.Records(x.l...), event.Upto(x.l...), event.Epochs(x.l...)
		for stop := range len(x.l) + 2 {
			if got := first(stop, records); !slices.Equal(got, x.records[:min(stop, len(x.records))]) {
				t.Errorf("%s: Records left behind %d: %v", x.name, stop, got)
			}
			if got := first(stop, upto); !slices.Equal(got, x.upto[:min(stop, len(x.upto))]) {
				t.Errorf("%s: Upto left behind %d: %v", x.name, stop, got)
			}
			one := func(yield func(epoch) bool) {
				epochs(func(id int64, records []api.Record) bool { return yield(epoch{id, records}) })
			}
			if got := first(stop, one); !sameEpochs(got, x.epochs[:min(stop, len(x.epochs))]) {
				t.Errorf("%s: Epochs left behind %d: %v", x.name, stop, got)
			}
		}
		if !slices.Equal(slices.Collect(records), x.records) || !slices.Equal(slices.Collect(upto), x.upto) {
			t.Errorf("%s: Records or Upto, gone through again", x.name)
		}
	}
}

// first is the first ones that are told: the loop is left when it comes to the next one.
func first[T any](count int, seq iter.Seq[T]) []T {
	var out []T
	for x := range seq {
		if len(out) == count {
			break
		}
		out = append(out, x)
	}
	return out
}

func TestP63TwoLoopsAtOnce(t *testing.T) {
	l := []api.Event{record(1, 2), record(3, 4), barrier(7), record(5, 6)}
	epochs := event.Epochs(l...)
	for range epochs {
		var inner []epoch
		for id, records := range epochs {
			inner = append(inner, epoch{id, records})
		}
		if !sameEpochs(inner, []epoch{{7, recs(1, 2, 3, 4)}, {0, recs(5, 6)}}) {
			t.Errorf("the loop within tells %v", inner)
		}
	}
	records := event.Records(l...)
	for range records {
		if got := slices.Collect(records); !slices.Equal(got, recs(1, 2, 3, 4, 5, 6)) {
			t.Errorf("the loop within tells %v", got)
		}
	}
}

// TestR3TellWhatWasThere changes the list between the call and the loop, and within the loop.
func TestR3TellWhatWasThere(t *testing.T) {
	for _, x := range cases() {
		l := slices.Clone(x.l)
		records, upto, epochs := event.Records(l...), event.Upto(l...), event.Epochs(l...)
		for i := range l {
			l[i] = barrier(99)
		}
		for range 2 {
			var gotRecords, gotUpto []api.Record
			var gotEpochs []epoch
			for r := range records {
				gotRecords = append(gotRecords, r)
				l[len(l)-1].Kind++
			}
			for r := range upto {
				gotUpto = append(gotUpto, r)
				l[len(l)-1] = record(98, 98)
			}
			for id, records := range epochs {
				gotEpochs = append(gotEpochs, epoch{id, records})
				l[len(l)-1] = barrier(97)
			}
			if !slices.Equal(gotRecords, x.records) || !slices.Equal(gotUpto, x.upto) || !sameEpochs(gotEpochs, x.epochs) {
				t.Errorf("%s: %v, %v, %v", x.name, gotRecords, gotUpto, gotEpochs)
			}
		}
	}
}

// TestR3WhatEpochsTells writes to each list that is told, and behind it.
func TestR3WhatEpochsTells(t *testing.T) {
	for _, x := range cases() {
		l := slices.Clone(x.l)
		epochs := event.Epochs(l...)
		var lists [][]api.Record
		for range 2 {
			var got []epoch
			for id, records := range epochs {
				got = append(got, epoch{id, slices.Clone(records)})
				clear(records)
				room := records[:cap(records)]
				for i := range room {
					room[i] = api.Record{Key: 66, Val: 66}
				}
				lists = append(lists, room)
			}
			if !sameEpochs(got, x.epochs) {
				t.Errorf("%s: Epochs = %v", x.name, got)
			}
		}
		if !slices.Equal(l, x.l) {
			t.Errorf("%s: the events became %v", x.name, l)
		}
		for i, list := range lists {
			for j := range list {
				list[j].Key = int64(i)
			}
		}
		for i, list := range lists {
			if slices.ContainsFunc(list, func(r api.Record) bool { return r.Key != int64(i) }) {
				t.Errorf("%s: two lists share memory", x.name)
			}
		}
	}
}

// TestR3WhatIsHandedIn: nothing is written to the list, nor to what stands behind it.
func TestR3WhatIsHandedIn(t *testing.T) {
	for _, x := range cases() {
		l := append(slices.Clone(x.l), record(77, 77), barrier(78))
		before := slices.Clone(l)
		checkEvents(t, l[:len(x.l)])
		if !slices.Equal(l, before) {
			t.Errorf("%s: it was %v, and is %v", x.name, before, l)
		}
	}
}

// TestBoundTold: lists of any length may be gone through; time that grows with the square of it would not end here.
func TestBoundTold(t *testing.T) {
	const count = 1 << 20
	l := many(count)
	for _, parted := range []bool{true, false} {
		if !parted {
			for i := range l {
				l[i] = record(int64(i), 0)
			}
		}
		records, inEpochs, epochs := 0, 0, 0
		for range event.Records(l...) {
			records++
		}
		for _, k := range event.Epochs(l...) {
			epochs++
			inEpochs += len(k)
		}
		if records != inEpochs || parted != (records < count) || parted != (epochs > 1) {
			t.Errorf("%d records, in %d epochs %d", records, epochs, inEpochs)
		}
	}
	told := 0
	for range event.Upto(l...) {
		told++
	}
	if told != count {
		t.Errorf("Upto tells %d of %d", told, count)
	}
}
