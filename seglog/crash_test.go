package seglog_test

import (
	"fmt"
	"math/rand"
	"slices"
	"strings"
	"testing"

	"pontoon/api"
	"pontoon/seglog"
	"pontoon/store"
)

// collected is all records of a log.
func collected(l *seglog.Log) []string {
	var out []string
	for _, record := range l.All(l.Base()) {
		out = append(out, string(record))
	}
	return out
}

// checkCrash looks at one crash: what is left is a beginning of what was there, with all that was sure; also when it is opened again, and behind one more crash.
func checkCrash(t *testing.T, what string, s *store.Store, l *seglog.Log, keep, torn int) {
	t.Helper()
	was, sure, base := collected(l), l.Sure(), l.Base()
	c := crashed(t, s, keep, torn)
	left, e := seglog.Open(c, "p", 64)
	if e != api.OK {
		t.Fatalf("%s, Crash(%d, %d): Open = %d", what, keep, torn, e)
	}
	n := left.Next() - base
	if left.Base() != base || left.Next() < sure || n > int64(len(was)) || left.Sure() != left.Next() {
		t.Fatalf("%s, Crash(%d, %d): Base %d, Next %d, Sure %d; was %d, %d, %d", what, keep, torn, left.Base(), left.Next(), left.Sure(), base, l.Next(), sure)
	}
	if got := collected(left); !slices.Equal(got, was[:n]) {
		t.Fatalf("%s, Crash(%d, %d): %q is left of %q", what, keep, torn, got, was)
	}
	tells, bytes := tell(t, left), tellStore(t, c)
	if got := tell(t, open(t, c, 64)); got != tells || tellStore(t, c) != bytes {
		t.Fatalf("%s, Crash(%d, %d), opened again: %s\nwas: %s", what, keep, torn, got, tells)
	}
	if got := tell(t, open(t, crashed(t, c, torn, keep), 64)); got != tells {
		t.Fatalf("%s, Crash(%d, %d), crashed again: %s\nwas: %s", what, keep, torn, got, tells)
	}
	// It goes on from there.
	grow(t, left, "more")
	if got := collected(open(t, c, 64)); !slices.Equal(got, append(was[:n:n], "more")) {
		t.Fatalf("%s, Crash(%d, %d), more: %q", what, keep, torn, got)
	}
}

// checkCrashes looks at all that a crash may leave, torn at each byte of the next write.
func checkCrashes(t *testing.T, what string, s *store.Store, l *seglog.Log) {
	t.Helper()
	for keep := range s.Pending() + 1 {
		for torn := range 90 {
			checkCrash(t, what, s, l, keep, torn)
		}
	}
	checkCrash(t, what, s, l, -7, -1000)
}

func TestP45CrashAtEachPlace(t *testing.T) {
	s := newStore(t, 2000, "other", "stays")
	l := open(t, s, 64)
	add := func(records ...string) func() api.Errno {
		return func() api.Errno {
			var list [][]byte
			for _, r := range records {
				list = append(list, []byte(r))
			}
			_, e := l.Append(list...)
			return e
		}
	}
	for i, do := range []func() api.Errno{
		add("a"), add("b", "", "ccc"), l.Sync, add("d"), add("full now", strings.Repeat("e", 30)), add("in the next one"),
		func() api.Errno { return s.Write("other", 0, []byte("pending")) },
		add("f"), add("g", "h"), l.Sync, add("i"), add(strings.Repeat("j", 60)), add("k", "l"), add("m"),
		func() api.Errno { return l.Cut(10) }, add("n"), func() api.Errno { return l.Cut(11) }, add("o", "p"),
		add("q"), func() api.Errno { return l.Drop(9) }, add("r"), func() api.Errno { return l.Drop(l.Next()) }, add("s", "t"),
		func() api.Errno { return l.Cut(l.Base()) }, add("u"), add("v"),
		func() api.Errno { return l.Begin(100) }, add("w"), add("x", "y"), func() api.Errno { return l.Begin(0) }, add("z"), add("z"), l.Sync,
		func() api.Errno { return l.Cut(l.Next()) }, add("z"), func() api.Errno { return l.Begin(0) }, add("z"),
	} {
		wantErr(t, fmt.Sprint("step ", i), do(), api.OK)
		checkCrashes(t, fmt.Sprint("behind step ", i), s, l)
	}
}

// Also a segment that was created in vain is there behind a crash.
func TestP45CrashBehindAppendWithoutRoom(t *testing.T) {
	s := newStore(t, 100)
	l := open(t, s, 64)
	for i, size := range []int{10, 20, 30, 40, 1} {
		_, e := l.Append([]byte(strings.Repeat("r", size)))
		wantErr(t, fmt.Sprint("Append of ", size), e, []api.Errno{0, 0, 0, api.ErrRoom, api.ErrRoom}[i])
		c := s.Clone()
		for keep := range s.Pending() + 1 {
			left := open(t, crashed(t, c, keep, 5), 64)
			if left.Next() < l.Sure() || left.Base() != 0 || left.Next() > l.Next() {
				t.Errorf("Append of %d, Crash(%d): Next %d, was %d, Sure %d", size, keep, left.Next(), l.Next(), l.Sure())
			}
		}
	}
	wantLog(t, l, 0, 3, 2, collected(l)...)
}

// A log whose calls and crashes are random ones, held against what was sure.
func TestP45ManyCrashes(t *testing.T) {
	r := rand.New(rand.NewSource(6))
	for range 300 {
		s := newStore(t, 3000)
		l := open(t, s, 64)
		for range 60 {
			switch r.Intn(12) {
			case 0:
				ok(t, l.Sync())
			case 1:
				ok(t, l.Cut(l.Base()+r.Int63n(l.Next()-l.Base()+1)))
			case 2:
				ok(t, l.Drop(r.Int63n(l.Next()+1)))
			case 3:
				s = crashed(t, s, r.Int(), r.Int())
				l = open(t, s, 64)
			case 4:
				if l.Base() > 200 || s.Left() < 1000 {
					ok(t, l.Begin(r.Int63n(100)))
				}
			default:
				var list [][]byte
				for range r.Intn(4) {
					list = append(list, make([]byte, r.Intn(40)))
					r.Read(list[len(list)-1])
				}
				if _, e := l.Append(list...); e != api.OK && e != api.ErrRoom {
					t.Fatalf("Append = %d", e)
				}
			}
			if s.Left() > 100 {
				checkCrash(t, "at random", s, l, r.Int(), r.Int())
			}
		}
	}
}
