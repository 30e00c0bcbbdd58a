package seglog_test

import (
	"fmt"
	"math"
	"slices"
	"strings"
	"testing"

	"pontoon/api"
	"pontoon/frame"
	"pontoon/seglog"
	"pontoon/store"
)

func ok(t *testing.T, e api.Errno) {
	t.Helper()
	if e != api.OK {
		t.Fatalf("error %d", e)
	}
}

func wantErr(t *testing.T, what string, got, want api.Errno) {
	t.Helper()
	if got != want {
		t.Errorf("%s = %d, want %d", what, got, want)
	}
}

// frames is the bytes of a file of these records.
func frames(records ...string) string {
	var out []byte
	for _, r := range records {
		b, e := frame.Put(nil, []byte(r))
		if e != api.OK {
			panic(e)
		}
		out = append(out, b...)
	}
	return string(out)
}

// newStore is a store with these files, whose bytes are sure: a name, then its bytes, and so on.
func newStore(t *testing.T, room int, files ...string) *store.Store {
	t.Helper()
	s, e := store.New(room)
	ok(t, e)
	for i := 0; i < len(files); i += 2 {
		ok(t, s.Create(files[i]))
		ok(t, s.Write(files[i], 0, []byte(files[i+1])))
		ok(t, s.Sync(files[i]))
	}
	return s
}

func open(t *testing.T, s *store.Store, most int) *seglog.Log {
	t.Helper()
	l, e := seglog.Open(s, "p", most)
	if e != api.OK {
		t.Fatalf("Open = %d; %s", e, tellStore(t, s))
	}
	return l
}

// grow appends records one by one.
func grow(t *testing.T, l *seglog.Log, records ...string) {
	t.Helper()
	for _, r := range records {
		at := l.Next()
		if n, e := l.Append([]byte(r)); n != at || e != api.OK {
			t.Fatalf("Append(%q) = %d, %d", r, n, e)
		}
	}
}

// eights are records of 8 bytes, whose frames have 20: four of them reach MinSegment.
func eights(from, to int) []string {
	var out []string
	for i := from; i < to; i++ {
		out = append(out, fmt.Sprintf("%08d", i))
	}
	return out
}

// tell is all that is to be seen of a log, each record read by Read and by All.
func tell(t *testing.T, l *seglog.Log) string {
	t.Helper()
	var all []string
	at := l.Base()
	for offset, record := range l.All(math.MinInt64) {
		if offset != at {
			t.Fatalf("All tells %d in the place of %d", offset, at)
		}
		if b, e := l.Read(offset); string(b) != string(record) || e != api.OK {
			t.Fatalf("Read(%d) = %q, %d; All tells %q", offset, b, e, record)
		}
		all = append(all, string(record))
		at++
	}
	if at != l.Next() {
		t.Fatalf("All tells up to %d, Next is %d", at, l.Next())
	}
	return tells(l.Base(), l.Sure(), l.Segments(), all...)
}

// tells is what tell says of a log with that Base, that Sure, so many segments, and these records.
func tells(base, sure int64, segments int, records ...string) string {
	return fmt.Sprintf("base %d, sure %d, %d segments: %q", base, sure, segments, records)
}

func wantLog(t *testing.T, l *seglog.Log, base, sure int64, segments int, records ...string) {
	t.Helper()
	if got, want := tell(t, l), tells(base, sure, segments, records...); got != want {
		t.Errorf("is:   %s\nwant: %s", got, want)
	}
}

// tellStore is all that is to be seen of a store, up or down: nothing of it is changed.
func tellStore(t *testing.T, s *store.Store) string {
	t.Helper()
	out := fmt.Sprintf("up %t, pending %d, left %d", s.Up(), s.Pending(), s.Left())
	up := s
	if !s.Up() {
		up = s.Clone()
		ok(t, up.Start())
	}
	for name := range s.Names() {
		size, e := up.Size(name)
		ok(t, e)
		b, e := up.Read(name, 0, size)
		ok(t, e)
		sure, e := up.Sure(name)
		ok(t, e)
		out += fmt.Sprintf("; %q %q %q", name, b, sure)
	}
	return out
}

func wantStore(t *testing.T, s *store.Store, want string) {
	t.Helper()
	if got := tellStore(t, s); got != want {
		t.Errorf("is:   %s\nwant: %s", got, want)
	}
}

func wantNames(t *testing.T, s *store.Store, want ...string) {
	t.Helper()
	if got := slices.Collect(s.Names()); !slices.Equal(got, want) {
		t.Errorf("files: %s; want %s", strings.Join(got, " "), strings.Join(want, " "))
	}
}

// crashed is what is left of a clone of s behind a crash, up again.
func crashed(t *testing.T, s *store.Store, keep, torn int) *store.Store {
	t.Helper()
	c := s.Clone()
	ok(t, c.Crash(keep, torn))
	ok(t, c.Start())
	return c
}
