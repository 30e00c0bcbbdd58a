package seglog_test

import (
	"bytes"
	"fmt"
	"math"
	"slices"
	"testing"

	"pontoon/api"
	"pontoon/seglog"
	"pontoon/store"
)

// collect is the offsets and records that an iterator tells.
func collect(l *seglog.Log, from int64) string {
	out := ""
	for at, record := range l.All(from) {
		out += fmt.Sprintf("%d %q ", at, record)
	}
	return out
}

// listed is what collect says of these records, the first of which has that offset.
func listed(at int64, records ...string) string {
	out := ""
	for i, r := range records {
		out += fmt.Sprintf("%d %q ", at+int64(i), r)
	}
	return out
}

func TestP44Read(t *testing.T) {
	s := newStore(t, 9999)
	l := open(t, s, 64)
	if b, e := l.Read(0); b != nil || e != api.ErrNone {
		t.Errorf("Read of an empty log = %q, %d", b, e)
	}
	grow(t, l, eights(0, 30)...)
	ok(t, l.Drop(9))
	for at := int64(-1); at <= 31; at++ {
		b, e := l.Read(at)
		switch {
		case at < 8:
			if b != nil || e != api.ErrGone {
				t.Errorf("Read(%d) = %q, %d", at, b, e)
			}
		case at >= 30:
			if b != nil || e != api.ErrNone {
				t.Errorf("Read(%d) = %q, %d", at, b, e)
			}
		default:
			if string(b) != eights(0, 30)[at] || e != api.OK {
				t.Errorf("Read(%d) = %q, %d", at, b, e)
			}
		}
	}
	for at, want := range map[int64]api.Errno{math.MinInt64: api.ErrGone, math.MaxInt64: api.ErrNone, api.MaxNum: api.ErrNone} {
		if b, e := l.Read(at); b != nil || e != want {
			t.Errorf("Read(%d) = %q, %d", at, b, e)
		}
	}
	ok(t, s.Crash(0, 0))
	for _, at := range []int64{-1, 7, 8, 29, 30} {
		if b, e := l.Read(at); b != nil || e != api.ErrDown {
			t.Errorf("Read(%d), the store down = %q, %d", at, b, e)
		}
	}
}

func TestP44ReadOfAnEmptyRecord(t *testing.T) {
	l := open(t, newStore(t, 9999), 64)
	grow(t, l, "", "a", "")
	for _, at := range []int64{0, 2} {
		if b, e := l.Read(at); len(b) != 0 || e != api.OK {
			t.Errorf("Read(%d) = %q, %d", at, b, e)
		}
	}
	wantLog(t, l, 0, 0, 1, "", "a", "")
}

func TestP44AndP47AllFromEachOffset(t *testing.T) {
	for _, most := range []int{64, 200, 9999} {
		for _, drop := range []int64{0, 13, 30} {
			s := newStore(t, 9999)
			l := open(t, s, most)
			grow(t, l, eights(0, 30)...)
			ok(t, l.Drop(drop))
			base := l.Base()
			for from := int64(-2); from <= 32; from++ {
				first := min(max(from, base), 30)
				if got, want := collect(l, from), listed(first, eights(int(first), 30)...); got != want {
					t.Errorf("most %d, Base %d: All(%d): %s\nwant: %s", most, base, from, got, want)
				}
			}
			all := listed(base, eights(int(base), 30)...)
			if collect(l, math.MinInt64) != all || collect(l, math.MaxInt64) != "" || collect(l, api.MaxNum) != "" {
				t.Error("All from afar")
			}
		}
	}
	if got := collect(open(t, newStore(t, 99), 64), 0); got != "" {
		t.Errorf("All of an empty log: %s", got)
	}
}

func TestP44AllWhileTheStoreIsDown(t *testing.T) {
	s := newStore(t, 9999)
	l := open(t, s, 64)
	grow(t, l, eights(0, 10)...)
	ahead := l.All(0)
	ok(t, s.Crash(9, 9))
	if got := collect(l, 0); got != "" {
		t.Errorf("All, the store down: %s", got)
	}
	down := l.All(0)
	// What was asked for ahead of the crash tells what was there then, and the other way round.
	told := 0
	for range ahead {
		told++
	}
	ok(t, s.Start())
	for range down {
		told += 100
	}
	if told != 10 {
		t.Errorf("told %d", told)
	}
}

// What a file lost since the log was opened can't be read; nothing else comes in its place.
func TestP44FilesThatAreTornSince(t *testing.T) {
	s := newStore(t, 9999)
	l := open(t, s, 64)
	grow(t, l, eights(0, 18)...)
	ok(t, s.Cut("p.8", 45))
	if got, want := collect(l, 6), listed(6, eights(6, 10)...); got != want {
		t.Errorf("All: %s\nwant: %s", got, want)
	}
	for at, want := range map[int64]api.Errno{9: api.OK, 10: api.ErrCut, 11: api.ErrCut, 12: api.OK} {
		if b, e := l.Read(at); e != want || e == api.OK && string(b) != eights(0, 18)[at] || e != api.OK && b != nil {
			t.Errorf("Read(%d) = %q, %d", at, b, e)
		}
	}
	ok(t, s.Write("p.4", 21, []byte("!!")))
	if b, e := l.Read(5); b != nil || e != api.ErrFrame {
		t.Errorf("Read of a damaged one = %q, %d", b, e)
	}
	if got, want := collect(l, 0), listed(0, eights(0, 5)...); got != want {
		t.Errorf("All: %s\nwant: %s", got, want)
	}
	ok(t, s.Remove("p.4"))
	if b, e := l.Read(5); b != nil || e != api.ErrNone {
		t.Errorf("Read in a file that is gone = %q, %d", b, e)
	}
	if got, want := collect(l, 0), listed(0, eights(0, 4)...); got != want {
		t.Errorf("All: %s\nwant: %s", got, want)
	}
	// More records than were there: none of them is told at another one's offset.
	ok(t, s.Cut("p.0", 0))
	ok(t, s.Write("p.0", 0, []byte(frames("", "", "", "", "", "", ""))))
	ok(t, s.Create("p.4"))
	ok(t, s.Write("p.4", 0, []byte(frames(eights(4, 8)...))))
	if got, want := collect(l, 0), listed(0, "", "", "", "", "00000004", "00000005", "00000006", "00000007", "00000008", "00000009"); got != want {
		t.Errorf("All: %s\nwant: %s", got, want)
	}
	ok(t, s.Cut("p.12", 0))
	if b, e := l.Read(14); b != nil || e == api.OK {
		t.Errorf("Read in an empty file = %q, %d", b, e)
	}
}

func TestP47AllLeftEarlyAndAgain(t *testing.T) {
	l := open(t, newStore(t, 9999), 64)
	grow(t, l, eights(0, 14)...)
	all := l.All(3)
	for stop := range 13 {
		var got []int64
		for at, record := range all {
			if len(got) == stop {
				break
			}
			if string(record) != eights(0, 14)[at] {
				t.Errorf("All: %d %q", at, record)
			}
			got = append(got, at)
			// Nobody else sees it.
			clear(record)
		}
		want := []int64{3, 4, 5, 6, 7, 8, 9, 10, 11, 12, 13}
		if !slices.Equal(got, want[:min(stop, len(want))]) {
			t.Errorf("left behind %d: %v", stop, got)
		}
	}
	wantLog(t, l, 0, 12, 4, eights(0, 14)...)
}

func TestR3AllTellsWhatWasThere(t *testing.T) {
	for what, change := range map[string]func(s *store.Store, l *seglog.Log) api.Errno{
		"Append": func(s *store.Store, l *seglog.Log) api.Errno { _, e := l.Append([]byte("x")); return e },
		"Cut":    func(s *store.Store, l *seglog.Log) api.Errno { return l.Cut(2) },
		"Drop":   func(s *store.Store, l *seglog.Log) api.Errno { return l.Drop(10) },
		"Begin":  func(s *store.Store, l *seglog.Log) api.Errno { return l.Begin(50) },
		"Cut and Append": func(s *store.Store, l *seglog.Log) api.Errno {
			l.Cut(1)
			_, e := l.Append([]byte("x"), []byte("y"), []byte("z"))
			return e
		},
		"Crash": func(s *store.Store, l *seglog.Log) api.Errno { return s.Crash(0, 0) },
		"Write": func(s *store.Store, l *seglog.Log) api.Errno { return s.Write("p.0", 0, make([]byte, 40)) },
	} {
		s := newStore(t, 9999)
		l := open(t, s, 64)
		grow(t, l, eights(0, 10)...)
		all, want := l.All(1), listed(1, eights(1, 10)...)
		wantErr(t, what, change(s, l), api.OK)
		for range 2 {
			got := ""
			for at, record := range all {
				got += fmt.Sprintf("%d %q ", at, record)
			}
			if got != want {
				t.Errorf("behind %s: %s\nwant: %s", what, got, want)
			}
		}
	}
	// The log may change on the way.
	l := open(t, newStore(t, 9999), 64)
	grow(t, l, eights(0, 10)...)
	told := 0
	for at := range l.All(0) {
		told++
		_, e := l.Append([]byte("x"))
		ok(t, e)
		ok(t, l.Drop(at))
	}
	if told != 10 || l.Next() != 20 {
		t.Errorf("told %d, Next %d", told, l.Next())
	}
}

func TestR3WhatIsHandedIn(t *testing.T) {
	memory := []byte("abcdefgh")
	l := open(t, newStore(t, 999), 64)
	list := [][]byte{memory[:3], memory[3:4], nil, memory[2:6]}
	_, e := l.Append(list...)
	ok(t, e)
	if string(memory) != "abcdefgh" || len(list) != 4 || string(list[0]) != "abc" || list[2] != nil {
		t.Errorf("written to: %q", memory)
	}
	clear(memory)
	clear(list)
	wantLog(t, l, 0, 0, 1, "abc", "d", "", "cdef")
}

func TestR3WhatIsAnswered(t *testing.T) {
	s := newStore(t, 999)
	l := open(t, s, 64)
	grow(t, l, eights(0, 6)...)
	was, wasStore := tell(t, l), tellStore(t, s)
	for at := range int64(6) {
		b, e := l.Read(at)
		ok(t, e)
		b = b[:cap(b)]
		for i := range b {
			b[i] = 0xee
		}
	}
	var kept [][]byte
	for _, record := range l.All(0) {
		kept = append(kept, record)
	}
	for i, b := range kept {
		b = b[:cap(b)]
		for j := range b {
			b[j] = byte(i)
		}
	}
	for i, b := range kept {
		if !bytes.Equal(b, bytes.Repeat([]byte{byte(i)}, 8)) {
			t.Errorf("answers share memory: %d is %v", i, b)
		}
	}
	wantStore(t, s, wasStore)
	if got := tell(t, l); got != was {
		t.Errorf("is: %s\nwas: %s", got, was)
	}
}

func TestR4EmptyAndNil(t *testing.T) {
	a, b := newStore(t, 999), newStore(t, 999)
	la, lb := open(t, a, 64), open(t, b, 64)
	for range 9 {
		na, ea := la.Append(nil, nil)
		nb, eb := lb.Append([]byte{}, []byte{})
		if na != nb || ea != api.OK || eb != api.OK {
			t.Errorf("Append: %d, %d; %d, %d", na, ea, nb, eb)
		}
	}
	wantStore(t, a, tellStore(t, b))
}

func TestR5ALogThatNoCallMade(t *testing.T) {
	for _, l := range []*seglog.Log{nil, {}, new(seglog.Log)} {
		for range 2 {
			for _, records := range [][][]byte{nil, {nil}, {make([]byte, api.MaxFrame+1)}} {
				if n, e := l.Append(records...); n != 0 || e != api.ErrMade {
					t.Errorf("Append = %d, %d", n, e)
				}
			}
			wantErr(t, "Sync", l.Sync(), api.ErrMade)
			for _, n := range []int64{-1, 0, 1, math.MaxInt64, math.MinInt64} {
				wantErr(t, "Cut", l.Cut(n), api.ErrMade)
				wantErr(t, "Drop", l.Drop(n), api.ErrMade)
				wantErr(t, "Begin", l.Begin(n), api.ErrMade)
				if b, e := l.Read(n); b != nil || e != api.ErrMade {
					t.Errorf("Read = %q, %d", b, e)
				}
				if got := collect(l, n); got != "" {
					t.Errorf("All: %s", got)
				}
			}
			if l.Base() != 0 || l.Next() != 0 || l.Sure() != 0 || l.Segments() != 0 {
				t.Errorf("Base %d, Next %d, Sure %d, %d segments", l.Base(), l.Next(), l.Sure(), l.Segments())
			}
		}
	}
}

// Were each of these calls to go through the whole segment, they would not end within the test's time.
func TestBoundManyRecordsInOneSegment(t *testing.T) {
	const many = 300000
	s := newStore(t, api.MaxRoom)
	l := open(t, s, api.MaxRoom)
	for i := range many {
		if n, e := l.Append([]byte{byte(i)}); n != int64(i) || e != api.OK {
			t.Fatalf("Append %d = %d, %d", i, n, e)
		}
		if b, e := l.Read(int64(i / 2)); e != api.OK || len(b) != 1 || b[0] != byte(i/2) {
			t.Fatalf("Read(%d) = %v, %d", i/2, b, e)
		}
		if i%3 == 0 {
			ok(t, l.Sync())
		}
	}
	l = open(t, s, api.MaxRoom)
	told := 0
	for at, record := range l.All(0) {
		if at != int64(told) || record[0] != byte(told) {
			t.Fatalf("All: %d %v", at, record)
		}
		told++
	}
	if told != many {
		t.Errorf("told %d", told)
	}
	for to := many - 1; to > many-50; to-- {
		ok(t, l.Cut(int64(to)))
	}
}

func TestBoundManySegments(t *testing.T) {
	s := newStore(t, api.MaxRoom)
	l := open(t, s, 64)
	record := bytes.Repeat([]byte("r"), 60)
	for range api.MaxFiles {
		_, e := l.Append(record)
		ok(t, e)
	}
	if _, e := l.Append(record); e != api.ErrFull || l.Segments() != api.MaxFiles {
		t.Errorf("Append of one more = %d; %d segments", e, l.Segments())
	}
	for at := range l.Next() {
		if b, e := l.Read(at); !bytes.Equal(b, record) || e != api.OK {
			t.Fatalf("Read(%d) = %q, %d", at, b, e)
		}
	}
	l = open(t, s, 64)
	ok(t, l.Drop(1000))
	ok(t, l.Cut(3000))
	if l.Base() != 1000 || l.Next() != 3000 || l.Segments() != 2000 {
		t.Errorf("Base %d, Next %d, %d segments", l.Base(), l.Next(), l.Segments())
	}
	// It goes on and on, while old segments are dropped.
	for range 20000 {
		at, e := l.Append(record)
		ok(t, e)
		ok(t, l.Drop(at-1500))
	}
	if l.Segments() > 1600 || l.Next() != 23000 {
		t.Errorf("Next %d, %d segments", l.Next(), l.Segments())
	}
	ok(t, l.Begin(7))
	wantLog(t, l, 7, 7, 1)
}
