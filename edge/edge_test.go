package edge_test

import (
	"slices"
	"testing"

	"pontoon/api"
	"pontoon/edge"
)

func TestExample(t *testing.T) {
	q, e := edge.New(2)
	if e != api.OK || q.Put(rec(1)) != api.OK || q.Put(rec(2)) != api.OK {
		t.Fatal("two records", e)
	}
	if e := q.Put(rec(3)); e != api.ErrFull {
		t.Errorf("a third one: %d", e)
	}
	if e, ok := q.Take(); e != rec(1) || !ok {
		t.Errorf("Take = %v, %v", e, ok)
	}
	if e := q.Put(rec(3)); e != api.OK {
		t.Errorf("a third one, behind Take: %d", e)
	}
	if got := told(t, q); !slices.Equal(got, []api.Event{rec(2), rec(3)}) {
		t.Errorf("there is %v", got)
	}
}

// fine is events that may be.
func fine() []api.Event {
	return []api.Event{
		{Kind: api.EvRecord},
		{Kind: api.EvRecord, Record: api.Record{Key: 3, Val: -1}},
		{Kind: api.EvRecord, Record: api.Record{Key: least, Val: most}},
		{Kind: api.EvRecord, Record: api.Record{Key: api.MaxNum + 1}},
		{Kind: api.EvRecord, Record: api.Record{Val: -api.MaxNum - 1}},
		{Kind: api.EvBarrier, Id: 1},
		{Kind: api.EvBarrier, Id: 2},
		{Kind: api.EvBarrier, Id: 1<<32 + 1},
		{Kind: api.EvBarrier, Id: api.MaxNum - 1},
		{Kind: api.EvBarrier, Id: api.MaxNum},
	}
}

// wrong is events that may not be.
func wrong() []api.Event {
	var l []api.Event
	for _, kind := range []int{0, 3, 4, -1, -2, 1<<32 + 1, 1<<32 + 2, 257, 258, most, least} {
		l = append(l,
			api.Event{Kind: kind},
			api.Event{Kind: kind, Id: 1},
			api.Event{Kind: kind, Record: api.Record{Key: 1, Val: 2}},
		)
	}
	for _, id := range []int64{1, -1, 1 << 32, api.MaxNum, api.MaxNum + 1, most, least} {
		l = append(l,
			api.Event{Kind: api.EvRecord, Id: id},
			api.Event{Kind: api.EvRecord, Id: id, Record: api.Record{Key: 1, Val: 2}},
		)
	}
	for _, id := range []int64{0, -1, -7, api.MaxNum + 1, -api.MaxNum, most, least} {
		l = append(l, bar(id))
	}
	for _, n := range []int64{1, -1, 1 << 32, most, least} {
		l = append(l,
			api.Event{Kind: api.EvBarrier, Id: 1, Record: api.Record{Key: n}},
			api.Event{Kind: api.EvBarrier, Id: 1, Record: api.Record{Val: n}},
			api.Event{Kind: api.EvBarrier, Id: api.MaxNum, Record: api.Record{Key: n, Val: -n}},
		)
	}
	return l
}

func TestP91Check(t *testing.T) {
	for _, x := range fine() {
		if e := edge.Check(x); e != api.OK || modelCheck(x) != api.OK {
			t.Errorf("Check(%v) = %d", x, e)
		}
	}
	for _, x := range wrong() {
		if e := edge.Check(x); e != api.ErrArg || modelCheck(x) != api.ErrArg {
			t.Errorf("Check(%v) = %d", x, e)
		}
	}
}

func TestP91New(t *testing.T) {
	for _, room := range []int{1, 2, 3, api.MaxQueue - 1, api.MaxQueue} {
		q, e := edge.New(room)
		if e != api.OK || q == nil {
			t.Fatalf("New(%d) = %v, %d", room, q, e)
		}
		m := &model{room: room}
		m.check(t, q)
		for _, x := range recs(room) {
			if e := m.checkPut(t, q, x); e != api.OK {
				t.Errorf("room %d: Put with %d left: %d", room, q.Left(), e)
			}
		}
		if e := m.checkPut(t, q, rec(0)); e != api.ErrFull {
			t.Errorf("room %d: one more: %d", room, e)
		}
	}
	for _, room := range []int{0, -1, api.MaxQueue + 1, -api.MaxQueue, 1 << 20, 1<<32 + 1, most, least} {
		if q, e := edge.New(room); e != api.ErrArg || q != nil {
			t.Errorf("New(%d) = %v, %d", room, q, e)
		}
	}
}

func TestP91From(t *testing.T) {
	for _, room := range []int{1, 2, 3, 17, api.MaxQueue} {
		for _, count := range []int{0, 1, room - 1, room} {
			if q, _ := checkFrom(t, room, recs(min(count, room))...); q.Len() != min(count, room) {
				t.Errorf("From(%d, %d records): Len %d", room, count, q.Len())
			}
		}
		checkRefused(t, api.ErrLong, room, recs(room+1)...)
		checkRefused(t, api.ErrLong, room, recs(room+100)...)
	}
	checkFrom(t, api.MaxQueue, fine()...)
	for _, x := range fine() {
		checkFrom(t, 1, x)
	}
}

// checkRefused holds From against that error.
func checkRefused(t *testing.T, want api.Errno, room int, l ...api.Event) {
	t.Helper()
	if q, e := edge.From(room, l...); q != nil || e != want {
		t.Errorf("From(%d, %v) = %v, %d; want %d", room, l, q, e, want)
	}
}

func TestP91FromOfWhatMayNotBe(t *testing.T) {
	for _, x := range wrong() {
		checkRefused(t, api.ErrArg, 1, x)
		for place := range 5 {
			l := recs(5)
			l[place] = x
			checkRefused(t, api.ErrArg, 5, l...)
			checkRefused(t, api.ErrArg, api.MaxQueue, l...)
		}
	}
}

func TestP91FromOfBarriers(t *testing.T) {
	for _, l := range [][]api.Event{
		{bar(1)},
		{bar(api.MaxNum)},
		{bar(1), bar(2)},
		{bar(1), bar(api.MaxNum)},
		{bar(5), rec(0), bar(6), rec(1), rec(2), bar(9)},
		{rec(9), bar(5), bar(6), bar(7), rec(1)},
	} {
		checkFrom(t, len(l), l...)
		checkFrom(t, api.MaxQueue, l...)
	}
	for _, l := range [][]api.Event{
		{bar(1), bar(1)},
		{bar(2), bar(1)},
		{bar(api.MaxNum), bar(api.MaxNum)},
		{bar(api.MaxNum), bar(1)},
		{bar(5), rec(0), bar(5)},
		{bar(5), rec(9), rec(9), bar(4)},
		{rec(9), bar(5), rec(1), rec(2), bar(4), rec(3)},
		{bar(1), bar(3), bar(2), bar(4)},
		{bar(1), bar(2), bar(3), rec(1), bar(3)},
		{bar(1), bar(2), bar(3), bar(1)},
	} {
		checkRefused(t, api.ErrPast, len(l), l...)
		checkRefused(t, api.ErrPast, api.MaxQueue, l...)
	}
}

func TestR2FromWhichErrorFirst(t *testing.T) {
	bad := api.Event{}
	for _, room := range []int{0, -1, api.MaxQueue + 1, most, least} {
		checkRefused(t, api.ErrArg, room)
		checkRefused(t, api.ErrArg, room, rec(1))
		checkRefused(t, api.ErrArg, room, bad)
		checkRefused(t, api.ErrArg, room, bar(2), bar(1))
		checkRefused(t, api.ErrArg, room, recs(api.MaxQueue+2)...)
	}
	checkRefused(t, api.ErrLong, 1, bad, bad)
	checkRefused(t, api.ErrLong, 1, rec(1), bad)
	checkRefused(t, api.ErrLong, 1, bar(2), bar(1))
	checkRefused(t, api.ErrLong, 2, bar(2), bar(1), bad)
	// One that may not be stands behind barriers that do not rise, ahead of them, and between them.
	checkRefused(t, api.ErrArg, 3, bar(2), bar(1), bad)
	checkRefused(t, api.ErrArg, 3, bad, bar(2), bar(1))
	checkRefused(t, api.ErrArg, 3, bar(2), bad, bar(1))
	checkRefused(t, api.ErrArg, 2, bar(1), bar(0))
	checkRefused(t, api.ErrArg, 2, bar(1), api.Event{Kind: api.EvBarrier, Id: 1, Record: api.Record{Val: 1}})
}

func TestP92PutOfWhatMayNotBe(t *testing.T) {
	for _, x := range wrong() {
		for _, l := range [][]api.Event{nil, {rec(1)}, {bar(7)}, {rec(1), bar(7)}, recs(3)} {
			q, m := checkFrom(t, 3, l...)
			if e := m.checkPut(t, q, x); e != api.ErrArg {
				t.Errorf("Put(%v) into %v: %d", x, l, e)
			}
		}
	}
}

// TestP92FullQueue: a record, a barrier that rises and one that does not.
func TestP92FullQueue(t *testing.T) {
	for _, room := range []int{1, 2, 5, api.MaxQueue} {
		l := recs(room)
		l[room/2] = bar(7)
		q, m := checkFrom(t, room, l...)
		for _, x := range []api.Event{rec(1), {Kind: api.EvRecord}, bar(8), bar(api.MaxNum), bar(7), bar(6), bar(1)} {
			if e := m.checkPut(t, q, x); e != api.ErrFull {
				t.Errorf("room %d: Put(%v) = %d", room, x, e)
			}
		}
		for _, x := range wrong() {
			if e := m.checkPut(t, q, x); e != api.ErrArg {
				t.Errorf("room %d: Put(%v) = %d", room, x, e)
			}
		}
		// The barriers that were refused do not count.
		m.checkTake(t, q)
		if e := m.checkPut(t, q, bar(8)); e != api.OK {
			t.Errorf("room %d: Put(bar(8)) behind refused ones: %d", room, e)
		}
	}
}

// behind is queues whose last barrier was 7, by the way it came there.
func behind(t *testing.T) map[string]*edge.Queue {
	put, _ := checkFrom(t, 4, rec(1))
	put.Put(bar(3))
	put.Put(bar(7))
	from, _ := checkFrom(t, 4, bar(7), rec(1))
	taken, _ := checkFrom(t, 4, rec(1), bar(7), rec(2))
	taken.Take()
	taken.Take()
	emptied, _ := checkFrom(t, 1)
	emptied.Put(bar(7))
	emptied.Take()
	alone, _ := checkFrom(t, 2, bar(7))
	alone.Take()
	alone.Put(rec(2))
	return map[string]*edge.Queue{"put": put, "from": from, "taken": taken, "emptied": emptied, "taken, a record put": alone, "clone": from.Clone(), "clone of emptied": emptied.Clone(), "clone of a clone": taken.Clone().Clone()}
}

func TestP92BarriersRise(t *testing.T) {
	for _, id := range []int64{1, 3, 6, 7} {
		for name, q := range behind(t) {
			had := told(t, q)
			for range 2 {
				if e := q.Put(bar(id)); e != api.ErrPast || !slices.Equal(told(t, q), had) {
					t.Errorf("%s: Put(bar(%d)) behind 7: %d, %v", name, id, e, told(t, q))
				}
			}
			// Records are not past, and have no part in it.
			if e := q.Put(rec(id)); e != api.OK {
				t.Errorf("%s: a record: %d", name, e)
			}
			q.Take()
			if e := q.Put(bar(id)); e != api.ErrPast {
				t.Errorf("%s: Put(bar(%d)) behind a record: %d", name, id, e)
			}
			if e := q.Put(bar(8)); e != api.OK {
				t.Errorf("%s: Put(bar(8)) behind refused ones: %d", name, e)
			}
		}
	}
	for _, id := range []int64{8, 9, api.MaxNum} {
		for name, q := range behind(t) {
			want := append(told(t, q), bar(id))
			if e := q.Put(bar(id)); e != api.OK || !slices.Equal(told(t, q), want) {
				t.Errorf("%s: Put(bar(%d)) behind 7: %d, %v", name, id, e, told(t, q))
			}
			q.Take()
			if e := q.Put(bar(id)); e != api.ErrPast {
				t.Errorf("%s: Put(bar(%d)) twice: %d", name, id, e)
			}
		}
	}
}

// TestP92NoBarrierYet: the first one may have any Id.
func TestP92NoBarrierYet(t *testing.T) {
	for _, id := range []int64{1, 2, api.MaxNum} {
		q, m := checkFrom(t, 3, rec(most), rec(id))
		if e := m.checkPut(t, q, bar(id)); e != api.OK {
			t.Errorf("Put(bar(%d)) = %d", id, e)
		}
	}
	// None is above the last one that there may be.
	q, m := checkFrom(t, 3, bar(api.MaxNum))
	if a, b := m.checkPut(t, q, bar(api.MaxNum)), m.checkPut(t, q, bar(api.MaxNum+1)); a != api.ErrPast || b != api.ErrArg {
		t.Errorf("behind MaxNum: %d, %d", a, b)
	}
}

func TestP92TakeAndPeek(t *testing.T) {
	for _, count := range []int{0, 1, 2, 3, api.MaxQueue - 1, api.MaxQueue} {
		l := recs(count)
		if count > 1 {
			l[count/2] = bar(7)
		}
		q, m := checkFrom(t, api.MaxQueue, l...)
		for place, want := range l {
			if e, ok := q.Peek(); e != want || !ok {
				t.Errorf("Peek at %d of %d: %v, %v", place, count, e, ok)
			}
			m.checkTake(t, q)
		}
		for range 3 {
			if e, ok := q.Peek(); e != (api.Event{}) || ok {
				t.Errorf("Peek behind %d: %v, %v", count, e, ok)
			}
			if e, ok := q.Take(); e != (api.Event{}) || ok {
				t.Errorf("Take behind %d: %v, %v", count, e, ok)
			}
			m.check(t, q)
		}
	}
}

// TestP93RoundAndRound empties and fills queues far more often than they have room, one by one and all at once.
func TestP93RoundAndRound(t *testing.T) {
	for _, room := range []int{1, 2, 3, 7, api.MaxQueue} {
		for step := 1; step <= room; step += max(1, room/5) {
			q, m := checkFrom(t, room)
			next := int64(1)
			for range 3*api.MaxQueue/step + 3 {
				for range step {
					x := rec(next)
					if next%3 == 0 {
						x = bar(next)
					}
					if e := m.checkPut(t, q, x); e != api.OK {
						t.Fatalf("room %d: Put(%v) = %d", room, x, e)
					}
					next++
				}
				for range step {
					m.checkTake(t, q)
				}
			}
			if m.taken <= 2*room || m.taken != len(m.put) {
				t.Errorf("room %d: only %d taken", room, m.taken)
			}
		}
	}
}

// TestP93NearlyFull: one is put, one is taken, and the queue stays as long as it is.
func TestP93NearlyFull(t *testing.T) {
	for _, room := range []int{2, 3, api.MaxQueue} {
		q, m := checkFrom(t, room, recs(room-1)...)
		for n := range int64(3*room + 5) {
			m.checkPut(t, q, rec(n))
			m.checkPut(t, q, rec(-1))
			m.checkTake(t, q)
		}
	}
}

func TestP94NeverMoreThanRoom(t *testing.T) {
	for room := 1; room <= api.MaxQueue; room++ {
		q, _ := checkFrom(t, room)
		for n := range 2*api.MaxQueue + 2 {
			had := q.Len()
			e := q.Put(rec(int64(n)))
			if q.Len() > room || q.Left() != room-q.Len() || (e == api.OK) != (q.Len() == had+1) || (e == api.ErrFull) != (had == room) {
				t.Fatalf("room %d, of which %d were taken: Put %d, Len %d, Left %d", room, had, e, q.Len(), q.Left())
			}
			if n%5 == 4 {
				q.Take()
			}
		}
	}
}

func TestP92Records(t *testing.T) {
	for want, lists := range map[int][][]api.Event{
		0: {nil, {bar(1)}, {bar(1), bar(2)}, {bar(1), rec(1)}, {bar(1), rec(1), rec(2), bar(2)}},
		1: {{rec(1)}, {rec(1), bar(1)}, {rec(1), bar(1), rec(2), rec(3)}, {rec(1), bar(1), bar(2), rec(2)}},
		2: {recs(2), {rec(1), rec(2), bar(1)}, {rec(1), rec(1), bar(1), rec(2), bar(2)}, {rec(1), rec(1), bar(1), rec(2), rec(2), rec(2)}},
		3: {recs(3), {{Kind: api.EvRecord}, {Kind: api.EvRecord}, {Kind: api.EvRecord}, bar(1)}},

		api.MaxQueue:     {recs(api.MaxQueue)},
		api.MaxQueue - 1: {append(recs(api.MaxQueue-1), bar(1))},
	} {
		for _, l := range lists {
			q, m := checkFrom(t, api.MaxQueue, l...)
			if got := q.Records(); got != want {
				t.Errorf("Records of %v: %d; want %d", l, got, want)
			}
			for range l {
				m.checkTake(t, q)
			}
		}
	}
}
