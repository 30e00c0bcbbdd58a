package event_test

import (
	"bytes"
	"math"
	"math/rand"
	"slices"
	"testing"

	"pontoon/api"
	"pontoon/event"
	"pontoon/pack"
)

const (
	least = math.MinInt64
	most  = math.MaxInt64
)

func record(key, val int64) api.Event {
	return api.Event{Kind: 1, Record: api.Record{Key: key, Val: val}}
}

func barrier(id int64) api.Event { return api.Event{Kind: 2, Id: id} }

// modelCheck does what P6.1 tells, word by word.
func modelCheck(e api.Event) api.Errno {
	if e.Kind != 1 && e.Kind != 2 {
		return 60
	}
	if e.Kind == 1 && e.Id != 0 {
		return 60
	}
	if e.Kind == 2 && (e.Record.Key != 0 || e.Record.Val != 0 || e.Id < 1 || e.Id > 9007199254740992) {
		return 60
	}
	return 0
}

// modelPut does what P6.2 tells of Put, in memory of its own.
func modelPut(b []byte, e api.Event) []byte {
	out := pack.Int(b)
	if modelCheck(e) != 0 {
		return out
	}
	out = pack.Int(out, int64(e.Kind))
	if e.Kind == 1 {
		return pack.Int(pack.Int(out, e.Record.Key), e.Record.Val)
	}
	return pack.Int(out, e.Id)
}

func modelBytes(l []api.Event) ([]byte, api.Errno) {
	for _, e := range l {
		if fault := modelCheck(e); fault != 0 {
			return nil, fault
		}
	}
	if len(l) > 4096 {
		return nil, 3
	}
	return bytesOf(l...), 0
}

// bytesOf are the number of events and the bytes of each, however many they are.
func bytesOf(l ...api.Event) []byte {
	out := pack.Int(nil, int64(len(l)))
	for _, e := range l {
		out = append(out, modelPut(nil, e)...)
	}
	return out
}

// reader is numbers that are read from the left, till one of them does not fit.
type reader struct {
	rest  []byte
	fault api.Errno
}

func (r *reader) number(from, to int64) int64 {
	if r.fault != 0 {
		return 0
	}
	n, size, fault := pack.First(r.rest)
	if fault == 0 && (n < from || n > to) {
		fault = 11
	}
	if fault != 0 {
		r.fault = fault
		return 0
	}
	r.rest = r.rest[size:]
	return n
}

func (r *reader) event() api.Event {
	e := api.Event{Kind: int(r.number(1, 2))}
	if e.Kind == 1 {
		e.Record.Key = r.number(least, most)
		e.Record.Val = r.number(least, most)
	}
	if e.Kind == 2 {
		e.Id = r.number(1, 9007199254740992)
	}
	if r.fault != 0 {
		return api.Event{}
	}
	return e
}

func (r *reader) end() api.Errno {
	if r.fault == 0 && len(r.rest) > 0 {
		return 12
	}
	return r.fault
}

func modelParse(b []byte) ([]api.Event, api.Errno) {
	r := reader{rest: b}
	var l []api.Event
	for n := r.number(0, 4096); n > 0 && r.fault == 0; n-- {
		l = append(l, r.event())
	}
	if fault := r.end(); fault != 0 {
		return nil, fault
	}
	return l, 0
}

func modelParseRecord(b []byte) (api.Record, api.Errno) {
	r := reader{rest: b}
	out := api.Record{Key: r.number(least, most)}
	out.Val = r.number(least, most)
	if fault := r.end(); fault != 0 {
		return api.Record{}, fault
	}
	return out, 0
}

// between is the records of l from one place up to another one.
func between(l []api.Event, from, to int) []api.Record {
	var out []api.Record
	for _, e := range l[from:to] {
		if e.Kind == 1 {
			out = append(out, e.Record)
		}
	}
	return out
}

// barriers is the places of the barriers of l.
func barriers(l []api.Event) []int {
	var out []int
	for at, e := range l {
		if e.Kind == 2 {
			out = append(out, at)
		}
	}
	return out
}

func modelUpto(l []api.Event) []api.Record {
	if at := barriers(l); len(at) > 0 {
		return between(l, 0, at[0])
	}
	return between(l, 0, len(l))
}

// epoch is what Epochs tells at once.
type epoch struct {
	id      int64
	records []api.Record
}

func sameEpochs(a, b []epoch) bool {
	return slices.EqualFunc(a, b, func(x, y epoch) bool { return x.id == y.id && slices.Equal(x.records, y.records) })
}

// modelEpochs does what P6.3 tells of Epochs, word by word.
func modelEpochs(l []api.Event) []epoch {
	var out []epoch
	behind := 0
	for _, at := range barriers(l) {
		out = append(out, epoch{l[at].Id, between(l, behind, at)})
		behind = at + 1
	}
	if last := between(l, behind, len(l)); len(last) > 0 {
		out = append(out, epoch{0, last})
	}
	return out
}

// joined is all records of these, one behind the other.
func joined(l []epoch) []api.Record {
	var out []api.Record
	for _, x := range l {
		out = append(out, x.records...)
	}
	return out
}

func collectEpochs(l ...api.Event) []epoch {
	var out []epoch
	for id, records := range event.Epochs(l...) {
		out = append(out, epoch{id, records})
	}
	return out
}

// checkEvents holds all that is told of these events against the model.
func checkEvents(t *testing.T, l []api.Event) {
	t.Helper()
	kept := slices.Clone(l)
	for _, e := range l {
		if got, want := event.Check(e), modelCheck(e); got != want {
			t.Fatalf("Check of %v = %d; want %d", e, got, want)
		}
		if got, want := event.Put([]byte{9, 8}, e), modelPut([]byte{9, 8}, e); !bytes.Equal(got, want) {
			t.Fatalf("Put of %v = %v; want %v", e, got, want)
		}
	}
	b, fault := event.Bytes(l...)
	if want, wantFault := modelBytes(l); !bytes.Equal(b, want) || fault != wantFault || fault != api.OK && b != nil {
		t.Fatalf("Bytes of %v = %v, %d; want %v, %d", l, b, fault, want, wantFault)
	}
	if fault == api.OK {
		checkParse(t, b)
	}
	checkTold(t, l)
	if !slices.Equal(l, kept) {
		t.Fatalf("%v became %v", kept, l)
	}
}

func checkTold(t *testing.T, l []api.Event) {
	t.Helper()
	records := slices.Collect(event.Records(l...))
	if want := between(l, 0, len(l)); !slices.Equal(records, want) {
		t.Fatalf("Records of %v = %v; want %v", l, records, want)
	}
	if got, want := slices.Collect(event.Upto(l...)), modelUpto(l); !slices.Equal(got, want) {
		t.Fatalf("Upto of %v = %v; want %v", l, got, want)
	}
	epochs := collectEpochs(l...)
	if want := modelEpochs(l); !sameEpochs(epochs, want) {
		t.Fatalf("Epochs of %v = %v; want %v", l, epochs, want)
	}
	// P6.5
	if !slices.Equal(joined(epochs), records) {
		t.Fatalf("of %v: Epochs %v; Records %v", l, epochs, records)
	}
}

// checkParse holds all that is told of these bytes against the model; what is parsed has them (P6.4).
func checkParse(t *testing.T, b []byte) {
	t.Helper()
	kept := bytes.Clone(b)
	l, fault := event.Parse(b)
	if want, wantFault := modelParse(b); !slices.Equal(l, want) || fault != wantFault || fault != api.OK && l != nil {
		t.Fatalf("Parse of %v = %v, %d; want %v, %d", b, l, fault, want, wantFault)
	}
	if again, e := event.Bytes(l...); fault == api.OK && (e != api.OK || !bytes.Equal(again, b)) {
		t.Fatalf("%v is parsed as %v, which has %v, %d", b, l, again, e)
	}
	r, fault := event.ParseRecord(b)
	if want, wantFault := modelParseRecord(b); r != want || fault != wantFault {
		t.Fatalf("ParseRecord of %v = %v, %d; want %v, %d", b, r, fault, want, wantFault)
	}
	if again := event.RecordBytes(r); fault == api.OK && !bytes.Equal(again, b) {
		t.Fatalf("%v is parsed as %v, which has %v", b, r, again)
	}
	checkTake(t, b)
	if !bytes.Equal(b, kept) {
		t.Fatalf("%v became %v", kept, b)
	}
}

// checkTake takes events from b till there is an error.
func checkTake(t *testing.T, b []byte) {
	t.Helper()
	u, m := pack.Open(b), reader{rest: b}
	for m.fault == 0 {
		e, want := event.Take(u), m.event()
		rest := len(m.rest)
		if m.fault != 0 {
			rest = 0
		}
		if e != want || u.Err() != m.fault || u.Rest() != rest {
			t.Fatalf("Take from %v = %v, %d, with %d left; want %v, %d, %d", b, e, u.Err(), u.Rest(), want, m.fault, rest)
		}
	}
}

// anyNumber is one of those at which something changes, or any one.
func anyNumber(r *rand.Rand) int64 {
	l := []int64{0, 0, 1, -1, 2, 3, 63, 64, -64, -65, 4096, 4097, api.MaxNum, api.MaxNum + 1, -api.MaxNum, least, most}
	if n := r.Intn(2 * len(l)); n < len(l) {
		return l[n]
	}
	return int64(r.Uint64()) >> r.Intn(64)
}

// goodEvent is an event that may be.
func goodEvent(r *rand.Rand) api.Event {
	if r.Intn(3) > 0 {
		return record(anyNumber(r), anyNumber(r))
	}
	return barrier(min(max(anyNumber(r), 1), api.MaxNum))
}

// anyEvent is mostly an event that may not be.
func anyEvent(r *rand.Rand) api.Event {
	e := api.Event{Kind: r.Intn(4)}
	if r.Intn(8) == 0 {
		e.Kind = int(anyNumber(r))
	}
	if r.Intn(2) == 0 {
		e.Record.Key = anyNumber(r)
	}
	if r.Intn(2) == 0 {
		e.Record.Val = anyNumber(r)
	}
	if r.Intn(2) == 0 {
		e.Id = anyNumber(r)
	}
	return e
}

func anyEvents(r *rand.Rand) []api.Event {
	var l []api.Event
	spoilt := r.Intn(3)
	for range r.Intn(12) {
		if r.Intn(4) < spoilt {
			l = append(l, anyEvent(r))
		} else {
			l = append(l, goodEvent(r))
		}
	}
	return l
}

func TestModelEvents(t *testing.T) {
	r := rand.New(rand.NewSource(1))
	for range 20000 {
		checkEvents(t, anyEvents(r))
	}
}

// spoil changes bytes a little: a byte is another one, is gone or is new, or what is behind it is gone.
func spoil(r *rand.Rand, b []byte) []byte {
	b = bytes.Clone(b)
	at := r.Intn(len(b))
	switch r.Intn(4) {
	case 0:
		b[at] = byte(r.Intn(256))
	case 1:
		b = slices.Delete(b, at, at+1)
	case 2:
		b = slices.Insert(b, at, byte(r.Intn(256)))
	case 3:
		b = b[:at]
	}
	return b
}

func TestModelSpoiltBytes(t *testing.T) {
	r := rand.New(rand.NewSource(2))
	for range 40000 {
		b := bytesOf(anyEvents(r)...)
		for n := r.Intn(3); n >= 0 && len(b) > 0; n-- {
			b = spoil(r, b)
			checkParse(t, b)
		}
	}
}

func FuzzParse(f *testing.F) {
	f.Add([]byte{4, 2, 6, 1, 4, 14})
	f.Add([]byte{2, 6})
	f.Add(bytesOf(record(least, most), barrier(api.MaxNum)))
	f.Fuzz(func(t *testing.T, b []byte) { checkParse(t, b) })
}

// FuzzEvents takes each four numbers of its bytes as an event.
func FuzzEvents(f *testing.F) {
	f.Add(pack.Int(nil, 1, 3, -1, 0, 2, 0, 0, 7))
	f.Add(pack.Int(nil, 3, 0, 0, 0, 2, 1, 0, 7, 2, 0, 0, api.MaxNum+1))
	f.Fuzz(func(t *testing.T, b []byte) {
		var numbers []int64
		for n := range pack.Ints(b) {
			numbers = append(numbers, n)
		}
		var l []api.Event
		for x := range slices.Chunk(numbers, 4) {
			if len(x) == 4 {
				l = append(l, api.Event{Kind: int(x[0]), Record: api.Record{Key: x[1], Val: x[2]}, Id: x[3]})
			}
		}
		checkEvents(t, l)
	})
}
