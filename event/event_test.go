package event_test

import (
	"bytes"
	"testing"

	"pontoon/api"
	"pontoon/event"
)

func TestExample(t *testing.T) {
	l := []api.Event{event.Record(3, -1), event.Barrier(7)}
	b, e := event.Bytes(l...)
	if !bytes.Equal(b, []byte{4, 2, 6, 1, 4, 14}) || e != api.OK {
		t.Errorf("Bytes = %v, %d", b, e)
	}
	want := []epoch{{7, []api.Record{{Key: 3, Val: -1}}}}
	if got := collectEpochs(l...); !sameEpochs(got, want) {
		t.Errorf("Epochs = %v", got)
	}
}

// fine is events that may be.
func fine() []api.Event {
	return []api.Event{
		{Kind: api.EvRecord},
		{Kind: api.EvRecord, Record: api.Record{Key: 3, Val: -1}},
		{Kind: api.EvRecord, Record: api.Record{Key: least, Val: most}},
		{Kind: api.EvRecord, Record: api.Record{Key: most, Val: least}},
		{Kind: api.EvRecord, Record: api.Record{Key: api.MaxNum + 1}},
		{Kind: api.EvRecord, Record: api.Record{Val: -api.MaxNum - 1}},
		{Kind: api.EvBarrier, Id: 1},
		{Kind: api.EvBarrier, Id: 7},
		{Kind: api.EvBarrier, Id: api.MaxNum - 1},
		{Kind: api.EvBarrier, Id: api.MaxNum},
	}
}

// wrong is events that may not be.
func wrong() []api.Event {
	var l []api.Event
	for _, kind := range []int{0, 3, 4, -1, -2, 1<<32 + 1, 1<<32 + 2, 257, most, least} {
		l = append(l,
			api.Event{Kind: kind},
			api.Event{Kind: kind, Id: 1},
			api.Event{Kind: kind, Record: api.Record{Key: 1, Val: 2}},
		)
	}
	for _, id := range []int64{1, -1, 1 << 32, api.MaxNum, most, least} {
		l = append(l, api.Event{Kind: api.EvRecord, Id: id})
		l = append(l, api.Event{Kind: api.EvRecord, Id: id, Record: api.Record{Key: 1, Val: 2}})
	}
	for _, id := range []int64{0, -1, -7, api.MaxNum + 1, -api.MaxNum, most, least} {
		l = append(l, api.Event{Kind: api.EvBarrier, Id: id})
	}
	for _, n := range []int64{1, -1, 1 << 32, most, least} {
		l = append(l,
			api.Event{Kind: api.EvBarrier, Id: 1, Record: api.Record{Key: n}},
			api.Event{Kind: api.EvBarrier, Id: 1, Record: api.Record{Val: n}},
			api.Event{Kind: api.EvBarrier, Id: api.MaxNum, Record: api.Record{Key: n, Val: -n}},
		)
	}
	return l
}

func TestP61Check(t *testing.T) {
	for _, x := range fine() {
		if e := event.Check(x); e != api.OK {
			t.Errorf("Check of %v = %d", x, e)
		}
	}
	for _, x := range wrong() {
		if e := event.Check(x); e != api.ErrEvent {
			t.Errorf("Check of %v = %d", x, e)
		}
	}
}

func TestP61RecordAndBarrier(t *testing.T) {
	numbers := []int64{least, -api.MaxNum - 1, -1, 0, 1, 2, api.MaxNum, api.MaxNum + 1, most}
	for _, key := range numbers {
		for _, val := range numbers {
			got := event.Record(key, val)
			want := api.Event{Kind: api.EvRecord, Record: api.Record{Key: key, Val: val}}
			if e := event.Check(got); got != want || e != api.OK {
				t.Errorf("Record(%d, %d) = %v; Check tells %d", key, val, got, e)
			}
		}
	}
	for i, id := range numbers {
		got := event.Barrier(id)
		want := api.ErrEvent
		// 1, 2 and MaxNum
		if i >= 4 && i <= 6 {
			want = api.OK
		}
		if e := event.Check(got); got != (api.Event{Kind: api.EvBarrier, Id: id}) || e != want {
			t.Errorf("Barrier(%d) = %v; Check tells %d", id, got, e)
		}
	}
}
