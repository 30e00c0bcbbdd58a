package edge_test

import (
	"math"
	"math/rand"
	"slices"
	"testing"

	"pontoon/api"
	"pontoon/edge"
)

const (
	most  = math.MaxInt64
	least = math.MinInt64
)

// rec is the event of a record, other ones for other numbers.
func rec(n int64) api.Event {
	return api.Event{Kind: api.EvRecord, Record: api.Record{Key: n, Val: -n}}
}

func bar(id int64) api.Event {
	return api.Event{Kind: api.EvBarrier, Id: id}
}

// recs is the events of that many records.
func recs(count int) []api.Event {
	var l []api.Event
	for n := range count {
		l = append(l, rec(int64(n)+100))
	}
	return l
}

// model is what the chapter tells of a queue: all that was put and not refused, and how many of these were taken.
type model struct {
	room  int
	put   []api.Event
	taken int
}

// modelCheck does what P9.1 tells of an event, word by word.
func modelCheck(e api.Event) api.Errno {
	if e.Kind == 1 && e.Id == 0 {
		return api.OK
	}
	if e.Kind == 2 && e.Record.Key == 0 && e.Record.Val == 0 && e.Id > 0 && e.Id <= 9007199254740992 {
		return api.OK
	}
	return api.ErrArg
}

func modelFrom(room int, l []api.Event) (*model, api.Errno) {
	if room < 1 || room > 64 {
		return nil, api.ErrArg
	}
	if len(l) > room {
		return nil, api.ErrLong
	}
	for _, e := range l {
		if modelCheck(e) != api.OK {
			return nil, api.ErrArg
		}
	}
	for i, e := range l {
		for _, before := range l[:i] {
			if e.Kind == 2 && before.Kind == 2 && before.Id >= e.Id {
				return nil, api.ErrPast
			}
		}
	}
	return &model{room: room, put: slices.Clone(l)}, api.OK
}

func (m *model) there() []api.Event {
	return m.put[m.taken:]
}

func (m *model) Put(e api.Event) api.Errno {
	if modelCheck(e) != api.OK {
		return api.ErrArg
	}
	if len(m.there()) == m.room {
		return api.ErrFull
	}
	if e.Kind == 2 && e.Id <= m.last() {
		return api.ErrPast
	}
	m.put = append(m.put, e)
	return api.OK
}

// last is the Id of the last barrier that was put.
func (m *model) last() int64 {
	for _, e := range slices.Backward(m.put) {
		if e.Kind == 2 {
			return e.Id
		}
	}
	return 0
}

func (m *model) Take() (api.Event, bool) {
	if len(m.there()) == 0 {
		return api.Event{}, false
	}
	m.taken++
	return m.put[m.taken-1], true
}

func (m *model) Records() int {
	for place, e := range m.there() {
		if e.Kind == 2 {
			return place
		}
	}
	return len(m.there())
}

func (m *model) Clone() *model {
	return &model{m.room, slices.Clone(m.put), m.taken}
}

// told is what All tells; it holds the places against what they must be.
func told(t *testing.T, q *edge.Queue) []api.Event {
	t.Helper()
	var l []api.Event
	for place, e := range q.All() {
		if place != len(l) {
			t.Errorf("All tells the place %d behind %d events", place, len(l))
		}
		l = append(l, e)
	}
	return l
}

// check holds all that can be seen of q against the model.
func (m *model) check(t *testing.T, q *edge.Queue) {
	t.Helper()
	there := m.there()
	if q.Len() != len(there) || q.Left() != m.room-len(there) || q.Records() != m.Records() {
		t.Errorf("Len %d, Left %d, Records %d of %v; want %d, %d, %d", q.Len(), q.Left(), q.Records(), there, len(there), m.room-len(there), m.Records())
	}
	if got := told(t, q); !slices.Equal(got, there) {
		t.Errorf("All tells %v; want %v", got, there)
	}
	first, ok := q.Peek()
	if ok != (len(there) > 0) || ok && first != there[0] || !ok && first != (api.Event{}) {
		t.Errorf("Peek = %v, %v; there is %v", first, ok, there)
	}
	m.checkLast(t, q)
}

// checkLast tells by clones which barrier was put last.
func (m *model) checkLast(t *testing.T, q *edge.Queue) {
	t.Helper()
	if last := m.last(); last > 0 {
		c := withRoom(q)
		if got := c.Put(bar(last)); got != api.ErrPast {
			t.Errorf("Put of the last barrier, %d: %d", last, got)
		}
	}
	if last := m.last(); last < api.MaxNum {
		c := withRoom(q)
		if got := c.Put(bar(last + 1)); got != api.OK {
			t.Errorf("Put of a barrier above the last one, %d: %d", last, got)
		}
	}
}

// withRoom is a clone from which one was taken, if it was full.
func withRoom(q *edge.Queue) *edge.Queue {
	c := q.Clone()
	if c.Left() == 0 {
		c.Take()
	}
	return c
}

// checkPut puts e into both.
func (m *model) checkPut(t *testing.T, q *edge.Queue, e api.Event) api.Errno {
	t.Helper()
	want := m.Put(e)
	if got := q.Put(e); got != want {
		t.Errorf("Put(%v) = %d; want %d", e, got, want)
	}
	m.check(t, q)
	return want
}

// checkTake takes one from both.
func (m *model) checkTake(t *testing.T, q *edge.Queue) {
	t.Helper()
	want, there := m.Take()
	if got, ok := q.Take(); got != want || ok != there {
		t.Errorf("Take = %v, %v; want %v, %v", got, ok, want, there)
	}
	m.check(t, q)
}

// checkFrom holds From against the model, and answers both.
func checkFrom(t *testing.T, room int, l ...api.Event) (*edge.Queue, *model) {
	t.Helper()
	m, want := modelFrom(room, l)
	q, e := edge.From(room, l...)
	if e != want || (q == nil) != (want != api.OK) {
		t.Fatalf("From(%d, %v) = %v, %d; want %d", room, l, q, e, want)
	}
	if q != nil {
		m.check(t, q)
	}
	return q, m
}

// pick takes bytes one by one, and zeros behind their end.
type pick []byte

func (p *pick) below(n int) int {
	if len(*p) == 0 {
		return 0
	}
	b := (*p)[0]
	*p = (*p)[1:]
	return int(b) % n
}

func (p *pick) number() int64 {
	near := []int64{0, 1, 2, 3, -1, -2, api.MaxNum - 1, api.MaxNum, api.MaxNum + 1, most, least}
	return near[p.below(len(near))]
}

// event is any event, mostly one that may be; the Ids of its barriers are near to last, so that many of them rise.
func (p *pick) event(last int64) api.Event {
	switch p.below(8) {
	case 0:
		return api.Event{Kind: p.below(4), Record: api.Record{Key: p.number(), Val: p.number()}, Id: p.number()}
	case 1:
		return api.Event{Kind: int(p.number()), Id: p.number()}
	case 2:
		return bar(p.number())
	case 3, 4:
		return bar(last + int64(p.below(5)) - 1)
	}
	return api.Event{Kind: api.EvRecord, Record: api.Record{Key: p.number(), Val: int64(p.below(256))}}
}

func (p *pick) room() int {
	rooms := []int{1, 2, 3, 5, 8, api.MaxQueue - 1, api.MaxQueue, api.MaxQueue + 1, 0, -1, most, least}
	return rooms[p.below(len(rooms))]
}

// seen is how often From and Put answered which error.
type seen struct{ from, put map[api.Errno]int }

func newSeen() seen {
	return seen{map[api.Errno]int{}, map[api.Errno]int{}}
}

// walk does with a queue what the bytes say, held against the model.
func (s seen) walk(t *testing.T, p *pick) {
	room := p.room()
	var l []api.Event
	last := int64(0)
	for range p.below(6) {
		e := p.event(last)
		l = append(l, e)
		last = max(0, e.Id)
	}
	_, e := modelFrom(room, l)
	s.from[e]++
	q, m := checkFrom(t, room, l...)
	for q != nil && len(*p) > 0 && !t.Failed() {
		switch p.below(10) {
		case 0, 1, 2, 3, 4, 5:
			s.put[m.checkPut(t, q, p.event(m.last()))]++
		case 6, 7:
			m.checkTake(t, q)
		case 8:
			for range p.below(room + 1) {
				m.checkTake(t, q)
			}
		case 9:
			// From now on the clone is looked at; what is done to the other one must not be seen.
			c := q.Clone()
			q.Take()
			q.Put(rec(1))
			q = c
			m.check(t, q)
		}
	}
}

func TestModel(t *testing.T) {
	r := rand.New(rand.NewSource(9))
	s := newSeen()
	for range 6000 {
		p := make(pick, 20+r.Intn(600))
		r.Read(p)
		s.walk(t, &p)
		if t.Failed() {
			return
		}
	}
	for _, e := range []api.Errno{api.OK, api.ErrArg, api.ErrLong, api.ErrPast} {
		if s.from[e] < 50 {
			t.Errorf("From answered %v: too few of %d", s.from, e)
		}
	}
	for _, e := range []api.Errno{api.OK, api.ErrArg, api.ErrFull, api.ErrPast} {
		if s.put[e] < 50 {
			t.Errorf("Put answered %v: too few of %d", s.put, e)
		}
	}
}

func FuzzQueue(f *testing.F) {
	f.Add([]byte{1, 2, 7, 0, 1, 7, 0, 2, 0, 7, 0, 3, 6, 0, 7, 0, 3})
	f.Add([]byte{2, 1, 3, 2, 0, 3, 2, 6, 0, 3, 1, 9, 6})
	f.Fuzz(func(t *testing.T, b []byte) {
		p := pick(b)
		newSeen().walk(t, &p)
	})
}
