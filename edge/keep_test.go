package edge_test

import (
	"runtime"
	"slices"
	"testing"

	"pontoon/api"
	"pontoon/edge"
)

// some is events with barriers among them.
func some() []api.Event {
	return []api.Event{rec(1), bar(3), rec(2), rec(2), bar(9)}
}

func TestP92AllLeftEarlyAndAgain(t *testing.T) {
	l := some()
	q, m := checkFrom(t, len(l), l...)
	seq := q.All()
	for stop := range len(l) {
		var got []api.Event
		for place, e := range seq {
			if place != len(got) {
				t.Errorf("the place %d behind %d events", place, len(got))
			}
			got = append(got, e)
			if place == stop {
				break
			}
		}
		if !slices.Equal(got, l[:stop+1]) {
			t.Errorf("left at %d: %v", stop, got)
		}
		m.check(t, q)
	}
	for range 2 {
		place := 0
		for at, e := range seq {
			if at != place || e != l[place] {
				t.Errorf("gone through again: %d and %v", at, e)
			}
			place++
		}
		if place != len(l) {
			t.Errorf("gone through again: %d events", place)
		}
	}
}

func TestP92AllWithinAll(t *testing.T) {
	l := some()
	q, _ := checkFrom(t, len(l), l...)
	seq := q.All()
	outer := 0
	for range seq {
		inner := 0
		for at, e := range seq {
			if at != inner || e != l[inner] {
				t.Errorf("within %d: %d and %v", outer, at, e)
			}
			inner++
		}
		if inner != len(l) {
			t.Errorf("within %d: %d events", outer, inner)
		}
		outer++
	}
	if outer != len(l) {
		t.Errorf("%d events", outer)
	}
}

// TestR3AllTellsWhatWasThere: it was asked for ahead of what is done to the queue.
func TestR3AllTellsWhatWasThere(t *testing.T) {
	for name, do := range map[string]func(*edge.Queue){
		"put to":                func(q *edge.Queue) { q.Put(rec(50)) },
		"taken from":            func(q *edge.Queue) { q.Take() },
		"taken from and put to": func(q *edge.Queue) { q.Take(); q.Put(rec(50)); q.Put(bar(51)) },
		"gone through": func(q *edge.Queue) {
			for range q.All() {
				continue
			}
		},
		"emptied": func(q *edge.Queue) {
			for range q.Len() {
				q.Take()
			}
		},
		"emptied and filled": func(q *edge.Queue) {
			for n := range int64(3 * api.MaxQueue) {
				q.Take()
				q.Put(rec(n))
			}
		},
		"made a zero one": func(q *edge.Queue) { *q = edge.Queue{} },
	} {
		l := some()
		for _, room := range []int{len(l), len(l) + 1, api.MaxQueue} {
			q, _ := checkFrom(t, room, l...)
			seq := q.All()
			do(q)
			for range 2 {
				var got []api.Event
				for _, e := range seq {
					got = append(got, e)
				}
				if !slices.Equal(got, l) {
					t.Errorf("%s, room %d: All tells %v", name, room, got)
				}
			}
			// It is done within the loop, too.
			q, _ = checkFrom(t, room, l...)
			var got []api.Event
			for _, e := range q.All() {
				got = append(got, e)
				do(q)
			}
			if !slices.Equal(got, l) {
				t.Errorf("%s within the loop, room %d: All tells %v", name, room, got)
			}
		}
	}
	// Of an empty queue nothing, also if it was filled since.
	q, _ := checkFrom(t, 3)
	seq := q.All()
	q.Put(rec(1))
	for range seq {
		t.Error("an event of an empty queue")
	}
}

// TestR3WhatIsHandedIn: a list with room behind its end.
func TestR3WhatIsHandedIn(t *testing.T) {
	memory := append(some(), rec(70), rec(71), rec(72))
	had := slices.Clone(memory)
	l := memory[:len(some())]
	q, m := checkFrom(t, 8, l...)
	other, n := checkFrom(t, 8, l...)
	for id := range int64(3) {
		m.checkPut(t, q, bar(30+id))
	}
	for range 6 {
		m.checkTake(t, q)
	}
	m.checkPut(t, q, rec(33))
	if !slices.Equal(memory, had) {
		t.Errorf("what was handed in is %v now; it was %v", memory, had)
	}
	n.check(t, other)
	for i := range memory {
		memory[i] = bar(-99)
	}
	m.check(t, q)
	n.check(t, other)
	// What was refused is left as it was, too.
	memory = append(recs(3), bar(2), bar(1), api.Event{})
	had = slices.Clone(memory)
	for _, room := range []int{0, 2, 5, 6, 8} {
		edge.From(room, memory...)
		edge.From(room, memory[:5]...)
	}
	if !slices.Equal(memory, had) {
		t.Errorf("what was handed in and refused is %v now; it was %v", memory, had)
	}
}

func TestR4NoEvents(t *testing.T) {
	for _, l := range [][]api.Event{nil, {}, some()[:0]} {
		q, m := checkFrom(t, 2, l...)
		m.checkPut(t, q, bar(1))
		m.checkPut(t, q, rec(1))
		checkRefused(t, api.ErrArg, 0, l...)
	}
}

// TestP92Clone: what is done to one of both is not seen at the other one.
func TestP92Clone(t *testing.T) {
	for _, room := range []int{5, 6, api.MaxQueue} {
		for taken := range 6 {
			q, m := checkFrom(t, room, some()...)
			for range taken {
				m.checkTake(t, q)
			}
			c, n := q.Clone(), m.Clone()
			n.check(t, c)
			m.checkPut(t, q, rec(20))
			n.check(t, c)
			n.checkPut(t, c, bar(30))
			n.checkPut(t, c, rec(31))
			m.check(t, q)
			m.checkPut(t, q, bar(10))
			n.checkPut(t, c, bar(30))
			for range room {
				m.checkTake(t, q)
				n.check(t, c)
			}
			for id := range int64(room) {
				m.checkPut(t, q, bar(40+id))
			}
			n.check(t, c)
			for range room {
				n.checkTake(t, c)
			}
			m.check(t, q)
			*q = edge.Queue{}
			n.check(t, c)
		}
	}
}

func TestR5WhatNoCallMade(t *testing.T) {
	for name, q := range map[string]*edge.Queue{"nil": nil, "zero": {}, "new": new(edge.Queue)} {
		for range 2 {
			for _, x := range append(fine(), wrong()...) {
				if e := q.Put(x); e != api.ErrMade {
					t.Errorf("%s: Put(%v) = %d", name, x, e)
				}
			}
			if e, ok := q.Take(); e != (api.Event{}) || ok {
				t.Errorf("%s: Take = %v, %v", name, e, ok)
			}
			if e, ok := q.Peek(); e != (api.Event{}) || ok {
				t.Errorf("%s: Peek = %v, %v", name, e, ok)
			}
			if q.Len() != 0 || q.Left() != 0 || q.Records() != 0 {
				t.Errorf("%s: Len %d, Left %d, Records %d", name, q.Len(), q.Left(), q.Records())
			}
			for place, e := range q.All() {
				t.Errorf("%s: All tells %d, %v", name, place, e)
			}
			if c := q.Clone(); c != nil {
				t.Errorf("%s: Clone = %v", name, c)
			}
		}
	}
}

// TestBoundTakenIsGone: a queue that very many events went through holds no more than its room.
func TestBoundTakenIsGone(t *testing.T) {
	q, _ := checkFrom(t, api.MaxQueue)
	var before, after runtime.MemStats
	runtime.GC()
	runtime.ReadMemStats(&before)
	const many = 1 << 20
	for n := range int64(many) {
		if q.Put(rec(n)) != api.OK {
			t.Fatal(n)
		}
		if n >= api.MaxQueue/2 {
			if e, ok := q.Take(); e != rec(n-api.MaxQueue/2) || !ok {
				t.Fatal(n, e)
			}
		}
	}
	runtime.GC()
	runtime.ReadMemStats(&after)
	if after.HeapAlloc > before.HeapAlloc+1<<20 {
		t.Errorf("%d bytes more are held", after.HeapAlloc-before.HeapAlloc)
	}
	if q.Len() != api.MaxQueue/2 {
		t.Errorf("Len %d", q.Len())
	}
	l := recs(many)
	checkRefused(t, api.ErrLong, api.MaxQueue, l...)
	checkRefused(t, api.ErrArg, -1, l...)
}
