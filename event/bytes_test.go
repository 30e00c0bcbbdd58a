package event_test

import (
	"bytes"
	"slices"
	"testing"

	"pontoon/api"
	"pontoon/event"
	"pontoon/pack"
)

// ahead is bytes that an event may be put behind.
func ahead() [][]byte {
	return [][]byte{nil, {}, {0}, {128}, {7, 8, 255}}
}

func TestP62Put(t *testing.T) {
	for _, b := range ahead() {
		for _, x := range []struct {
			e    api.Event
			want []byte
		}{
			{record(0, 0), []byte{2, 0, 0}},
			{record(3, -1), []byte{2, 6, 1}},
			{record(-300, 300), []byte{2, 132, 87, 132, 88}},
			{barrier(1), []byte{4, 2}},
			{barrier(7), []byte{4, 14}},
			{record(least, most), slices.Concat([]byte{2}, pack.Int(nil, least, most))},
			{barrier(api.MaxNum), slices.Concat([]byte{4}, pack.Int(nil, 1<<53))},
		} {
			if got := event.Put(b, x.e); !bytes.Equal(got, slices.Concat(b, x.want)) {
				t.Errorf("Put(%v, %v) = %v", b, x.e, got)
			}
		}
	}
}

func TestP62PutOfWhatMayNotBe(t *testing.T) {
	for _, b := range ahead() {
		for _, e := range wrong() {
			if got := event.Put(b, e); !bytes.Equal(got, b) {
				t.Errorf("Put(%v, %v) = %v", b, e, got)
			}
		}
	}
}

func TestR3PutLeavesWhatItIsGiven(t *testing.T) {
	for _, e := range append(fine(), wrong()...) {
		memory := []byte{1, 2, 3, 4, 5, 6, 7, 8, 9, 10, 11, 12, 13, 14, 15, 16, 17, 18, 19, 20, 21, 22, 23, 24}
		before := bytes.Clone(memory)
		got := event.Put(memory[:2], e)
		want := bytes.Clone(got)
		if !bytes.Equal(memory, before) {
			t.Errorf("Put of %v wrote behind: %v", e, memory)
		}
		clear(memory)
		if !bytes.Equal(got, want) {
			t.Errorf("Put of %v answers memory that was handed in", e)
		}
		got[0] = 77
		if memory[0] != 0 {
			t.Errorf("Put of %v answers memory that was handed in", e)
		}
	}
}

func wantTake(t *testing.T, u *pack.Unpacker, want api.Event, fault api.Errno, rest int) {
	t.Helper()
	if e := event.Take(u); e != want || u.Err() != fault || u.Rest() != rest {
		t.Errorf("Take = %v, %d, with %d left; want %v, %d, %d", e, u.Err(), u.Rest(), want, fault, rest)
	}
}

func TestP62Take(t *testing.T) {
	for _, e := range fine() {
		// What stands behind an event is left to be read next.
		u := pack.Open(event.Put(event.Put(nil, e), barrier(5)))
		wantTake(t, u, e, api.OK, 2)
		if n, id := u.Int(0, 9), u.Int(0, 9); n != 2 || id != 5 || u.Close() != api.OK {
			t.Errorf("behind %v: %d, %d", e, n, id)
		}
		u = pack.Open(event.Put(nil, e))
		wantTake(t, u, e, api.OK, 0)
		wantTake(t, u, api.Event{}, api.ErrShort, 0)
	}
}

func TestP62TakeOfBytesThatEndEarly(t *testing.T) {
	for _, e := range fine() {
		b := event.Put(nil, e)
		for size := range b {
			wantTake(t, pack.Open(b[:size]), api.Event{}, api.ErrShort, 0)
		}
	}
}

func TestP62TakeOfWhatMayNotBe(t *testing.T) {
	for _, kind := range []int64{0, 3, 4, -1, -2, 1<<32 + 1, 257, most, least} {
		wantTake(t, pack.Open(pack.Int(nil, kind, 1, 1)), api.Event{}, api.ErrShape, 0)
		wantTake(t, pack.Open(pack.Int(nil, kind)), api.Event{}, api.ErrShape, 0)
	}
	for _, id := range []int64{0, -1, api.MaxNum + 1, -api.MaxNum, most, least} {
		wantTake(t, pack.Open(pack.Int(nil, api.EvBarrier, id, 1)), api.Event{}, api.ErrShape, 0)
	}
	wantTake(t, pack.Open(pack.Int(nil, api.EvBarrier, 1, 3)), barrier(1), api.OK, 1)
	wantTake(t, pack.Open(pack.Int(nil, api.EvBarrier, api.MaxNum, 3)), barrier(api.MaxNum), api.OK, 1)
	// 128 begins no number's form.
	for _, b := range [][]byte{{128, 2}, {2, 128}, {2, 6, 128}, {4, 128}} {
		wantTake(t, pack.Open(b), api.Event{}, api.ErrShape, 0)
	}
}

func TestP62TakeWithAnError(t *testing.T) {
	for _, fault := range []api.Errno{api.ErrShort, api.ErrExtra, api.ErrEvent, api.ErrFull} {
		u := pack.Open(bytesOf(fine()...))
		u.Spoil(fault)
		wantTake(t, u, api.Event{}, fault, 0)
		wantTake(t, u, api.Event{}, fault, 0)
	}
	// Its own error stays, too, whatever stands behind what it could not read.
	u := pack.Open(pack.Int(nil, api.EvBarrier, 0, api.EvBarrier, 1))
	wantTake(t, u, api.Event{}, api.ErrShape, 0)
	wantTake(t, u, api.Event{}, api.ErrShape, 0)
	if u.Close() != api.ErrShape {
		t.Error("Close =", u.Close())
	}
}

func TestR5TakeFromWhatNoCallMade(t *testing.T) {
	wantTake(t, nil, api.Event{}, api.ErrMade, 0)
	wantTake(t, &pack.Unpacker{}, api.Event{}, api.ErrMade, 0)
}

// many is events that may be, each unlike those ahead of it, every third one a barrier.
func many(count int) []api.Event {
	l := make([]api.Event, count)
	for i := range l {
		l[i] = record(int64(i), least+int64(i))
		if i%3 == 2 {
			l[i] = barrier(int64(i))
		}
	}
	return l
}

func TestP62Bytes(t *testing.T) {
	for _, x := range []struct {
		l    []api.Event
		want []byte
	}{
		{nil, []byte{0}},
		{[]api.Event{}, []byte{0}},
		{[]api.Event{record(0, 0)}, []byte{2, 2, 0, 0}},
		{[]api.Event{barrier(1)}, []byte{2, 4, 2}},
		{[]api.Event{record(3, -1), barrier(7)}, []byte{4, 2, 6, 1, 4, 14}},
		{[]api.Event{barrier(7), barrier(7), record(3, -1)}, []byte{6, 4, 14, 4, 14, 2, 6, 1}},
		{fine(), bytesOf(fine()...)},
		{many(64), bytesOf(many(64)...)},
		{many(api.MaxEvents - 1), bytesOf(many(api.MaxEvents - 1)...)},
		{many(api.MaxEvents), bytesOf(many(api.MaxEvents)...)},
	} {
		if b, e := event.Bytes(x.l...); !bytes.Equal(b, x.want) || e != api.OK {
			t.Errorf("Bytes of %d events = %v, %d", len(x.l), b[:min(len(b), 50)], e)
		}
	}
}

func TestP62BytesOfTooMany(t *testing.T) {
	for _, count := range []int{api.MaxEvents + 1, api.MaxEvents + 2, 2 * api.MaxEvents, 1 << 20} {
		if b, e := event.Bytes(many(count)...); b != nil || e != api.ErrLong {
			t.Errorf("Bytes of %d events = %d bytes, %d", count, len(b), e)
		}
	}
}

func TestP62BytesOfWhatMayNotBe(t *testing.T) {
	for _, x := range wrong() {
		for _, count := range []int{1, 2, 5, api.MaxEvents, api.MaxEvents + 1, api.MaxEvents + 5} {
			for _, at := range []int{0, count / 2, count - 1} {
				l := many(count)
				l[at] = x
				if b, e := event.Bytes(l...); b != nil || e != api.ErrEvent {
					t.Errorf("Bytes of %d events, at %d %v = %d bytes, %d", count, at, x, len(b), e)
				}
			}
		}
	}
}

func wantParse(t *testing.T, b []byte, want api.Errno) {
	t.Helper()
	if l, e := event.Parse(b); l != nil || e != want {
		t.Errorf("Parse of %v = %v, %d; want %d", b[:min(len(b), 50)], l, e, want)
	}
}

func TestP62ParseOfBytesThatEndEarly(t *testing.T) {
	for _, l := range [][]api.Event{fine(), many(70), {record(3, -1)}, {barrier(7)}, nil} {
		b := bytesOf(l...)
		for size := range b {
			wantParse(t, b[:size], api.ErrShort)
		}
	}
}

func TestP62ParseOfBytesBehindTheEnd(t *testing.T) {
	for _, l := range [][]api.Event{fine(), many(70), many(api.MaxEvents), {record(3, -1)}, {barrier(7)}, nil} {
		for _, more := range [][]byte{{0}, {128}, {255, 255}, {4, 2}, bytesOf(fine()...)} {
			wantParse(t, slices.Concat(bytesOf(l...), more), api.ErrExtra)
		}
	}
}

func TestP62ParseHowMany(t *testing.T) {
	one := pack.Int(nil, api.EvBarrier, 7)
	for _, x := range []struct {
		said int64
		are  int
		e    api.Errno
	}{
		{0, 0, api.OK},
		{0, 1, api.ErrExtra},
		{1, 0, api.ErrShort},
		{1, 1, api.OK},
		{1, 2, api.ErrExtra},
		{5, 4, api.ErrShort},
		{api.MaxEvents, 0, api.ErrShort},
		{api.MaxEvents, api.MaxEvents - 1, api.ErrShort},
		{api.MaxEvents, api.MaxEvents, api.OK},
		{api.MaxEvents, api.MaxEvents + 1, api.ErrExtra},
		{api.MaxEvents + 1, api.MaxEvents + 1, api.ErrShape},
		{api.MaxEvents + 1, 0, api.ErrShape},
		{-1, 0, api.ErrShape},
		{1 << 32, 0, api.ErrShape},
		{most, 1, api.ErrShape},
		{least, 1, api.ErrShape},
	} {
		b := slices.Concat(pack.Int(nil, x.said), bytes.Repeat(one, x.are))
		if x.e != api.OK {
			wantParse(t, b, x.e)
			continue
		}
		l, e := event.Parse(b)
		if e != api.OK || len(l) != x.are || slices.ContainsFunc(l, func(e api.Event) bool { return e != barrier(7) }) {
			t.Errorf("Parse of %d events = %d events, %d", x.are, len(l), e)
		}
	}
}

func TestP62ParseOfWhatMayNotBe(t *testing.T) {
	good := pack.Int(nil, api.EvRecord, 3, -1)
	for _, bad := range [][]byte{
		pack.Int(nil, 0, 1, 1), pack.Int(nil, 3, 1, 1), pack.Int(nil, -1), pack.Int(nil, most), pack.Int(nil, least),
		pack.Int(nil, api.EvBarrier, 0), pack.Int(nil, api.EvBarrier, -1), pack.Int(nil, api.EvBarrier, api.MaxNum+1),
		{128}, {2, 128}, {2, 6, 128}, {4, 128},
	} {
		for at := range 3 {
			list := [][]byte{good, good, good}
			list[at] = bad
			b := slices.Concat(pack.Int(nil, 3), slices.Concat(list...))
			wantParse(t, b, api.ErrShape)
			// The first error is told, not that bytes are left.
			wantParse(t, append(b, 0), api.ErrShape)
		}
	}
	wantParse(t, []byte{2, 6}, api.ErrShape)
}

func TestP62RecordBytes(t *testing.T) {
	for _, x := range []struct {
		r    api.Record
		want []byte
	}{
		{api.Record{}, []byte{0, 0}},
		{api.Record{Key: 3, Val: -1}, []byte{6, 1}},
		{api.Record{Key: -1, Val: 3}, []byte{1, 6}},
		{api.Record{Key: 300, Val: -300}, []byte{132, 88, 132, 87}},
		{api.Record{Key: least, Val: most}, pack.Int(nil, least, most)},
		{api.Record{Key: most, Val: least}, pack.Int(nil, most, least)},
	} {
		if got := event.RecordBytes(x.r); !bytes.Equal(got, x.want) {
			t.Errorf("RecordBytes of %v = %v", x.r, got)
		}
		if r, e := event.ParseRecord(x.want); r != x.r || e != api.OK {
			t.Errorf("ParseRecord of %v = %v, %d", x.want, r, e)
		}
		for size := range x.want {
			wantParseRecord(t, x.want[:size], api.ErrShort)
		}
		for _, more := range [][]byte{{0}, {6}, {128}, x.want} {
			wantParseRecord(t, slices.Concat(x.want, more), api.ErrExtra)
		}
	}
}

func wantParseRecord(t *testing.T, b []byte, want api.Errno) {
	t.Helper()
	if r, e := event.ParseRecord(b); r != (api.Record{}) || e != want {
		t.Errorf("ParseRecord of %v = %v, %d; want %d", b, r, e, want)
	}
}

func TestP62ParseRecordOfNoRecord(t *testing.T) {
	wantParseRecord(t, nil, api.ErrShort)
	wantParseRecord(t, []byte{}, api.ErrShort)
	wantParseRecord(t, pack.Int(nil, 5), api.ErrShort)
	wantParseRecord(t, pack.Int(nil, 5, 6, 7), api.ErrExtra)
	wantParseRecord(t, pack.Int(nil, 5, 6, 0), api.ErrExtra)
	// The event of a record has its Kind ahead of it.
	wantParseRecord(t, event.Put(nil, record(5, 6)), api.ErrExtra)
	wantParseRecord(t, []byte{128, 0}, api.ErrShape)
	wantParseRecord(t, []byte{2, 128, 0}, api.ErrShape)
	// 2^64 is more than a number may be.
	wantParseRecord(t, []byte{130, 128, 128, 128, 128, 128, 128, 128, 128, 0, 0}, api.ErrShape)
}

func TestP64ThereAndBack(t *testing.T) {
	for _, l := range [][]api.Event{nil, fine(), many(1), many(63), many(64), many(65), many(api.MaxEvents)} {
		b, e := event.Bytes(l...)
		k, f := event.Parse(b)
		if e != api.OK || f != api.OK || !slices.Equal(k, l) {
			t.Errorf("%d events came back as %d: %d, %d", len(l), len(k), e, f)
		}
		if again, e := event.Bytes(k...); e != api.OK || !bytes.Equal(again, b) {
			t.Errorf("what is parsed has other bytes: %v, %v, %d", b, again, e)
		}
	}
}

func TestR3BytesAndParse(t *testing.T) {
	l := append(fine(), wrong()[0])[:len(fine())]
	b, _ := event.Bytes(l...)
	if !slices.Equal(l, fine()) || l[:len(l)+1][len(l)] != wrong()[0] {
		t.Errorf("Bytes wrote to its list: %v", l)
	}
	before := bytes.Clone(b)
	k, _ := event.Parse(b)
	event.ParseRecord(b)
	if !bytes.Equal(b, before) {
		t.Errorf("Parse wrote to its bytes: %v", b)
	}
	clear(b)
	clear(l)
	if !slices.Equal(k, fine()) {
		t.Errorf("Parse keeps its bytes: %v", k)
	}
	if again, _ := event.Bytes(k...); !bytes.Equal(again, before) {
		t.Errorf("Bytes are %v", again)
	}
	clear(k)
	if again, _ := event.Parse(before); !slices.Equal(again, fine()) {
		t.Errorf("Parse is %v", again)
	}
	r := event.RecordBytes(api.Record{Key: 3, Val: -1})
	clear(r)
	if r := event.RecordBytes(api.Record{Key: 3, Val: -1}); !bytes.Equal(r, []byte{6, 1}) {
		t.Errorf("RecordBytes are %v", r)
	}
}

func TestR4BytesOfNothing(t *testing.T) {
	for _, b := range [][]byte{nil, {}} {
		wantParse(t, b, api.ErrShort)
		wantTake(t, pack.Open(b), api.Event{}, api.ErrShort, 0)
	}
	if l, e := event.Parse([]byte{0}); len(l) != 0 || e != api.OK {
		t.Errorf("Parse = %v, %d", l, e)
	}
}

// TestBoundBytes: a number that tells of more than there is costs no memory, and what is put is not copied anew for each event.
func TestBoundBytes(t *testing.T) {
	short := pack.Int(nil, api.MaxEvents)
	if n := testing.AllocsPerRun(100, func() { event.Parse(short) }); n > 6 {
		t.Errorf("%v allocations for what is not there", n)
	}
	l := many(api.MaxEvents)
	if n := testing.AllocsPerRun(10, func() { event.Bytes(l...) }); n > 100 {
		t.Errorf("%v allocations for Bytes of %d events", n, len(l))
	}
	// Parse is over at the first event that is none, and at the greatest number of events.
	long := make([]byte, 1<<24)
	copy(long, pack.Int(nil, api.MaxEvents))
	wantParse(t, long, api.ErrShape)
	wantParseRecord(t, long, api.ErrExtra)
	if b := event.Put(long, barrier(1)); len(b) != len(long)+2 {
		t.Errorf("Put behind %d bytes: %d", len(long), len(b))
	}
}
