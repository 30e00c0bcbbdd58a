package seglog_test

import (
	"fmt"
	"math"
	"slices"
	"strings"
	"testing"

	"pontoon/api"
	"pontoon/seglog"
	"pontoon/store"
)

func TestP41NewLog(t *testing.T) {
	s := newStore(t, 999, "q.7", "other")
	l := open(t, s, 64)
	wantLog(t, l, 0, 0, 1)
	wantNames(t, s, "p.0", "q.7")
	if n, e := s.Size("p.0"); n != 0 || e != api.OK || s.Pending() != 0 {
		t.Errorf("Size of p.0: %d, %d, pending %d", n, e, s.Pending())
	}
	grow(t, l, "a")
	ok(t, l.Sync())
	wantLog(t, open(t, s, 64), 0, 1, 1, "a")
}

func TestP41Arguments(t *testing.T) {
	s := newStore(t, 999)
	was := tellStore(t, s)
	sixteen := "abcdefghijklmnop"
	for _, name := range []string{"", sixteen + "q", "P", "pA", "p0", "0", "p.", ".", "p.0", "p q", " p", "p\x00", "ä", "\xff", "`", "{", strings.Repeat("p", 100000)} {
		if l, e := seglog.Open(s, name, 64); l != nil || e != api.ErrArg {
			t.Errorf("Open(%.30q) = %v, %d", name, l, e)
		}
	}
	for _, most := range []int{63, 1<<22 + 1, 0, -64, math.MinInt, math.MaxInt} {
		if l, e := seglog.Open(s, "p", most); l != nil || e != api.ErrArg {
			t.Errorf("Open with most %d = %v, %d", most, l, e)
		}
	}
	wantStore(t, s, was)
	for _, name := range []string{"a", "z", sixteen, "qrstuvwxyz"} {
		for _, most := range []int{64, 65, 1<<22 - 1, 1 << 22} {
			if _, e := seglog.Open(s, name, most); e != api.OK {
				t.Errorf("Open(%q, %d) = %d", name, most, e)
			}
		}
	}
	wantNames(t, s, "a.0", sixteen+".0", "qrstuvwxyz.0", "z.0")
}

func TestP41StoreNotMadeOrDown(t *testing.T) {
	down := newStore(t, 999, "p.0", "no frames", "p.3", "no frames")
	ok(t, down.Crash(0, 0))
	was := tellStore(t, down)
	for _, c := range []struct {
		s *store.Store
		e api.Errno
	}{{nil, api.ErrMade}, {&store.Store{}, api.ErrMade}, {down, api.ErrDown}} {
		for _, name := range []string{"p", "q", "", "P"} {
			for _, most := range []int{64, 63, -1, api.MaxRoom, math.MaxInt} {
				if l, e := seglog.Open(c.s, name, most); l != nil || e != c.e {
					t.Errorf("Open(%q, %d) = %v, %d, want %d", name, most, l, e, c.e)
				}
			}
		}
	}
	wantStore(t, down, was)
}

func TestP41NoFileMore(t *testing.T) {
	s := newStore(t, 999, "p.2", frames("c"))
	for i := range api.MaxFiles - 1 {
		ok(t, s.Create(fmt.Sprint("f", i)))
	}
	if l, e := seglog.Open(s, "q", 64); l != nil || e != api.ErrFull {
		t.Errorf("Open of a new log without a file more = %v, %d", l, e)
	}
	wantLog(t, open(t, s, 64), 2, 3, 1, "c")
}

// Files whose names are near to a segment's are none, and stay as they are.
func TestP41NamesNearToASegments(t *testing.T) {
	near := []string{
		"p", "p.", "p..", "p.00", "p.01", "p.0000000000000000", "p.0000000000000001", "p.-0", "p.-1", "p.+1", "p.+0", "p. 1", "p.1 ", "p.1.", "p.1.0", "p.0.0", "p.1_0", "p.0x1", "p.1e1", "p.1\x00", "p.٣",
		"p.9007199254740993", "p.9999999999999999", "p.10000000000000000", "p.12345678901234567", "p.09007199254740992", "p.9223372036854775808", "p.18446744073709551616", "p.99999999999999999999999999",
		"P.0", "pp.0", "q.0", ".0", "0", "p0", "p,0", " p.0", "p.tmp", "xp.0",
	}
	var files []string
	for _, name := range near {
		files = append(files, name, frames("a record of no log")+"torn")
	}
	s := newStore(t, 99999, files...)
	l := open(t, s, 64)
	wantLog(t, l, 0, 0, 1)
	grow(t, l, eights(0, 8)...)
	wantLog(t, open(t, s, 64), 0, 8, 2, eights(0, 8)...)
	wantNames(t, s, slices.Sorted(slices.Values(append([]string{"p.0", "p.4"}, near...)))...)
	for _, name := range near {
		size, _ := s.Size(name)
		if b, e := s.Read(name, 0, size); string(b) != frames("a record of no log")+"torn" || e != api.OK {
			t.Errorf("%q is %q, %d", name, b, e)
		}
	}
}

func TestP41BasesAtTheirEdges(t *testing.T) {
	for _, base := range []int64{0, 1, 9, 10, 999999999999999, 1000000000000000, api.MaxNum - 1, api.MaxNum} {
		s := newStore(t, 999, fmt.Sprint("p.", base), "")
		wantLog(t, open(t, s, 64), base, base, 1)
		wantNames(t, s, fmt.Sprint("p.", base))
	}
	// One segment ends where the next one begins, at MaxNum.
	s := newStore(t, 999, "p.9007199254740990", frames("a", "b"), "p.9007199254740992", "")
	wantLog(t, open(t, s, 64), api.MaxNum-2, api.MaxNum, 2, "a", "b")
}

// Bases rise as numbers, names byte by byte: p.10 stands ahead of p.2 among these.
func TestP41SegmentsRiseAsNumbers(t *testing.T) {
	s := newStore(t, 99999)
	var want []string
	for i := range 120 {
		r := fmt.Sprint("record ", i)
		want = append(want, r)
		ok(t, s.Create(fmt.Sprint("p.", i)))
		ok(t, s.Write(fmt.Sprint("p.", i), 0, []byte(frames(r))))
	}
	wantLog(t, open(t, s, 64), 0, 120, 120, want...)
}

func TestP41FilesThatNoLogIs(t *testing.T) {
	two := frames("a", "b")
	for what, files := range map[string][]string{
		"a gap":                             {"p.0", two, "p.3", ""},
		"two records at one offset":         {"p.0", two, "p.1", frames("b")},
		"an empty one ahead of the last":    {"p.0", "", "p.2", two},
		"an empty one in the middle":        {"p.0", two, "p.2", "", "p.3", two},
		"one behind an empty log":           {"p.5", "", "p.6", ""},
		"a torn one ahead of the last":      {"p.0", two[:len(two)-1], "p.2", two},
		"a torn one that is counted so":     {"p.0", two[:len(two)-1], "p.1", two},
		"a byte more":                       {"p.0", two + "\x00", "p.2", ""},
		"a head more":                       {"p.0", two + frames("c")[:8], "p.2", ""},
		"a damaged one ahead of the last":   {"p.0", two[:20] + "!" + two[21:], "p.2", two},
		"a damaged one that is counted so":  {"p.0", two[:20] + "!" + two[21:], "p.1", two},
		"no frames at all":                  {"p.0", "nothing of a frame", "p.2", two},
		"no frames, the base as if":         {"p.2", "nothing of a frame", "p.2000", two},
		"a gap behind the second":           {"p.0", two, "p.2", two, "p.5", ""},
		"a torn second":                     {"p.0", two, "p.2", two[:len(two)-3], "p.4", two},
		"a gap far up":                      {"p.0", two, "p.9007199254740992", ""},
		"a gap, and a last one that is cut": {"p.0", two, "p.3", two[:7]},
		"more than the next one's base":     {"p.0", frames("a", "b", "c"), "p.2", ""},
	} {
		s := newStore(t, 9999, files...)
		ok(t, s.Write(files[len(files)-2], 0, []byte("pending")))
		was := tellStore(t, s)
		if l, e := seglog.Open(s, "p", 64); l != nil || e != api.ErrSegment {
			t.Errorf("%s: Open = %v, %d", what, l, e)
		}
		wantStore(t, s, was)
	}
}

// However much is left of the last segment, its whole frames stay.
func TestP41TornLastSegment(t *testing.T) {
	ahead, records := []string{"a", "b"}, []string{"", "c", "four", strings.Repeat("long", 20), ""}
	whole := frames(records...)
	for n := range len(whole) + 1 {
		count, size := 0, 0
		for count < len(records) && len(frames(records[:count+1]...)) <= n {
			count++
			size = len(frames(records[:count]...))
		}
		for _, files := range [][]string{{"p.2", whole[:n]}, {"p.0", frames(ahead...), "p.2", whole[:n]}} {
			s := newStore(t, 9999, files...)
			ok(t, s.Write("p.2", 0, []byte(whole[:n])))
			want := tells(2, int64(2+count), 1, records[:count]...)
			if len(files) > 2 {
				want = tells(0, int64(2+count), 2, append(ahead[:2:2], records[:count]...)...)
			}
			for range 2 {
				if got := tell(t, open(t, s, 64)); got != want {
					t.Errorf("of %d bytes: %s\nwant: %s", n, got, want)
				}
				b, e := s.Sure("p.2")
				if string(b) != whole[:size] || e != api.OK || s.Pending() != 0 {
					t.Errorf("of %d bytes %d are left, pending %d", n, len(b), s.Pending())
				}
			}
		}
	}
}

// What stands behind damage goes, whole or not.
func TestP41DamagedLastSegment(t *testing.T) {
	records := []string{"one", "", "three", "four"}
	whole := frames(records...)
	for i := range whole {
		count := 0
		for len(frames(records[:count+1]...)) <= i {
			count++
		}
		for _, bits := range []byte{1, 128, 255} {
			damaged := []byte(whole)
			damaged[i] ^= bits
			s := newStore(t, 9999, "p.7", string(damaged))
			wantLog(t, open(t, s, 64), 7, int64(7+count), 1, records[:count]...)
			if n, _ := s.Size("p.7"); n != len(frames(records[:count]...)) {
				t.Errorf("byte %d: %d bytes are left", i, n)
			}
		}
	}
	s := newStore(t, 9999, "p.0", "nothing that a frame is")
	l := open(t, s, 64)
	wantLog(t, l, 0, 0, 1)
	grow(t, l, "a")
	wantLog(t, open(t, s, 64), 0, 1, 1, "a")
}

func TestP41AllThatIsThereIsSure(t *testing.T) {
	s := newStore(t, 9999)
	grow(t, open(t, s, 64), eights(0, 6)...)
	if s.Pending() != 2 {
		t.Fatalf("pending %d", s.Pending())
	}
	wantLog(t, open(t, s, 64), 0, 6, 2, eights(0, 6)...)
	if s.Pending() != 0 {
		t.Errorf("pending %d behind Open", s.Pending())
	}
	wantLog(t, open(t, crashed(t, s, 0, 0), 64), 0, 6, 2, eights(0, 6)...)

	// Also if somebody else wrote all of its files.
	s = newStore(t, 9999)
	for _, base := range []int{0, 3, 6} {
		name := fmt.Sprint("p.", base)
		ok(t, s.Create(name))
		ok(t, s.Write(name, 0, []byte(frames(eights(base, base+3)...))))
	}
	l := open(t, s, 64)
	wantLog(t, l, 0, 9, 3, eights(0, 9)...)
	wantLog(t, open(t, crashed(t, s, 0, 0), 64), 0, 9, 3, eights(0, 9)...)
}

// A log of another name, also one that begins alike, is another log.
func TestP41LogsOfOneStore(t *testing.T) {
	s := newStore(t, 9999)
	logs := map[string]*seglog.Log{}
	for _, name := range []string{"p", "pp", "pa", "a"} {
		l, e := seglog.Open(s, name, 64)
		ok(t, e)
		logs[name] = l
	}
	for i := range 10 {
		for name, l := range logs {
			grow(t, l, fmt.Sprint(name, " ", i))
		}
	}
	for name, l := range logs {
		var want []string
		for i := range 10 {
			want = append(want, fmt.Sprint(name, " ", i))
		}
		if got := tell(t, l); got != tells(0, l.Sure(), l.Segments(), want...) {
			t.Errorf("%q: %s", name, got)
		}
		again, e := seglog.Open(s, name, 64)
		ok(t, e)
		wantLog(t, again, 0, 10, l.Segments(), want...)
	}
}

// How many bytes a segment has at most is said anew by each Open.
func TestP41AnotherMost(t *testing.T) {
	s := newStore(t, 9999)
	grow(t, open(t, s, 64), eights(0, 6)...)
	grow(t, open(t, s, 999), eights(6, 30)...)
	wantNames(t, s, "p.0", "p.4")
	l := open(t, s, 64)
	wantLog(t, l, 0, 30, 2, eights(0, 30)...)
	grow(t, l, eights(30, 31)...)
	wantNames(t, s, "p.0", "p.30", "p.4")
	wantLog(t, l, 0, 30, 3, eights(0, 31)...)
}
