package seglog_test

import (
	"bytes"
	"fmt"
	"math"
	"strings"
	"testing"

	"pontoon/api"
	"pontoon/seglog"
	"pontoon/store"
)

func TestExample(t *testing.T) {
	s := newStore(t, 999)
	l := open(t, s, 64)
	wantNames(t, s, "p.0")
	if n, e := l.Append([]byte("a"), []byte("b")); n != 0 || e != api.OK {
		t.Errorf("Append = %d, %d", n, e)
	}
	ok(t, l.Cut(1))
	if l.Next() != 1 {
		t.Errorf("Next = %d", l.Next())
	}
	wantLog(t, l, 0, 1, 1, "a")
}

func TestP42AppendIsOneWriteOfFrames(t *testing.T) {
	s := newStore(t, 9999, "p.40", frames("x"))
	l := open(t, s, 999)
	for i, records := range [][]string{{"a"}, {"", "bb", ""}, {strings.Repeat("c", 500), "d"}} {
		var list [][]byte
		for _, r := range records {
			list = append(list, []byte(r))
		}
		if n, e := l.Append(list...); n != []int64{41, 42, 45}[i] || e != api.OK {
			t.Errorf("Append %d = %d, %d", i, n, e)
		}
		if s.Pending() != i+1 {
			t.Errorf("Append %d: pending %d", i, s.Pending())
		}
	}
	all := []string{"x", "a", "", "bb", "", strings.Repeat("c", 500), "d"}
	wantLog(t, l, 40, 41, 1, all...)
	size, _ := s.Size("p.40")
	if b, _ := s.Read("p.40", 0, size); string(b) != frames(all...) {
		t.Errorf("the file is %q", b)
	}
}

func TestP42LongRecords(t *testing.T) {
	s := newStore(t, api.MaxRoom)
	l := open(t, s, api.MaxRoom)
	most := bytes.Repeat([]byte("m"), 1<<18)
	long := append(most, 'm')
	grow(t, l, "a")
	was := tellStore(t, s)
	for _, records := range [][][]byte{{long}, {nil, long}, {long, nil}, {most, long, most}} {
		if n, e := l.Append(records...); n != 0 || e != api.ErrLong {
			t.Errorf("Append of a long one = %d, %d", n, e)
		}
	}
	wantStore(t, s, was)
	if n, e := l.Append(most, nil, most); n != 1 || e != api.OK {
		t.Errorf("Append of MaxFrame bytes = %d, %d", n, e)
	}
	wantLog(t, l, 0, 0, 1, "a", string(most), "", string(most))
}

func TestP42NoRecords(t *testing.T) {
	// A full segment, so that a record would begin the next one.
	s := newStore(t, 999, "p.3", frames(eights(0, 4)...))
	l := open(t, s, 64)
	for range 2 {
		was := tellStore(t, s)
		for _, records := range [][][]byte{nil, {}} {
			if n, e := l.Append(records...); n != 7 || e != api.OK {
				t.Errorf("Append of no records = %d, %d", n, e)
			}
		}
		wantStore(t, s, was)
		// Nothing of the store is asked for.
		s.Crash(0, 0)
	}
}

func TestP42UpToMaxNum(t *testing.T) {
	s := newStore(t, 999, "p.9007199254740989", "")
	l := open(t, s, 64)
	four := [][]byte{[]byte("a"), []byte("b"), []byte("c"), []byte("d")}
	was := tellStore(t, s)
	if n, e := l.Append(four...); n != 0 || e != api.ErrArg {
		t.Errorf("Append of one too many = %d, %d", n, e)
	}
	if n, e := l.Append(append(four, make([]byte, api.MaxFrame+1))...); n != 0 || e != api.ErrLong {
		t.Errorf("Append of too many, of which one is long = %d, %d", n, e)
	}
	wantStore(t, s, was)
	if n, e := l.Append(four[:3]...); n != api.MaxNum-3 || e != api.OK {
		t.Errorf("Append up to MaxNum = %d, %d", n, e)
	}
	if n, e := l.Append(nil); n != 0 || e != api.ErrArg {
		t.Errorf("Append at MaxNum = %d, %d", n, e)
	}
	if n, e := l.Append(); n != api.MaxNum || e != api.OK {
		t.Errorf("Append of no records at MaxNum = %d, %d", n, e)
	}
	wantLog(t, l, api.MaxNum-3, api.MaxNum-3, 1, "a", "b", "c")
	ok(t, s.Crash(0, 0))
	if n, e := l.Append(nil); n != 0 || e != api.ErrArg {
		t.Errorf("Append at MaxNum, the store down = %d, %d", n, e)
	}
	// Files that somebody else wrote may go beyond; then no Append may be.
	l = open(t, newStore(t, 999, "p.9007199254740992", frames("a")), 64)
	if n, e := l.Append(); n != 0 || e != api.ErrArg || l.Next() != api.MaxNum+1 {
		t.Errorf("Append of no records beyond MaxNum = %d, %d; Next %d", n, e, l.Next())
	}
	if b, e := l.Read(api.MaxNum); string(b) != "a" || e != api.OK {
		t.Errorf("Read(MaxNum) = %q, %d", b, e)
	}
}

// A segment of just most bytes is full, one of a byte fewer is not.
func TestP42WhenASegmentIsFull(t *testing.T) {
	for _, most := range []int{64, 65, 100, 1000} {
		for less := -1; less <= 1; less++ {
			s := newStore(t, 9999)
			l := open(t, s, most)
			grow(t, l, "", strings.Repeat("r", most-24-less), "x")
			names, want := []string{"p.0"}, tells(0, 0, 1, "", strings.Repeat("r", most-24-less), "x")
			if less <= 0 {
				names, want = []string{"p.0", "p.2"}, tells(0, 2, 2, "", strings.Repeat("r", most-24-less), "x")
			}
			wantNames(t, s, names...)
			if got := tell(t, l); got != want {
				t.Errorf("most %d, %d fewer: %s", most, less, got)
			}
			if s.Pending() != []int{1, 1, 3}[less+1] {
				t.Errorf("most %d, %d fewer: pending %d", most, less, s.Pending())
			}
		}
	}
	// Many records of one Append stand in one segment.
	s := newStore(t, 9999)
	l := open(t, s, 64)
	_, e := l.Append(make([][]byte, 50)...)
	ok(t, e)
	grow(t, l, "x", "y")
	wantNames(t, s, "p.0", "p.50")
}

// fill is a store in which the log has a last segment that is full, with pending writes, and so much room is left.
func fill(t *testing.T, left int) (*store.Store, *seglog.Log) {
	t.Helper()
	s := newStore(t, 160+left)
	l := open(t, s, 64)
	grow(t, l, eights(0, 8)...)
	if s.Left() != left || l.Sure() != 4 {
		t.Fatalf("left %d, sure %d", s.Left(), l.Sure())
	}
	return s, l
}

func TestP42NoRoom(t *testing.T) {
	s, l := fill(t, 19)
	for range 2 {
		if n, e := l.Append([]byte("12345678")); n != 0 || e != api.ErrRoom {
			t.Errorf("Append without room = %d, %d", n, e)
		}
		// No record is there, but the segment that was created stays.
		wantLog(t, l, 0, 8, 3, eights(0, 8)...)
		wantNames(t, s, "p.0", "p.4", "p.8")
		if s.Pending() != 0 || s.Left() != 19 {
			t.Errorf("pending %d, left %d", s.Pending(), s.Left())
		}
	}
	wantLog(t, open(t, s.Clone(), 64), 0, 8, 3, eights(0, 8)...)
	grow(t, l, "1234567")
	wantLog(t, l, 0, 8, 3, append(eights(0, 8), "1234567")...)
	// In a segment with room nothing at all has changed.
	was := tellStore(t, s)
	if n, e := l.Append(nil, nil); n != 0 || e != api.ErrRoom {
		t.Errorf("Append without room = %d, %d", n, e)
	}
	wantStore(t, s, was)
	wantLog(t, l, 0, 8, 3, append(eights(0, 8), "1234567")...)
	wantLog(t, open(t, s, 64), 0, 9, 3, append(eights(0, 8), "1234567")...)
}

func TestP42NoNewSegment(t *testing.T) {
	s, l := fill(t, 999)
	ok(t, s.Create("p.8"))
	if n, e := l.Append(nil); n != 0 || e != api.ErrName {
		t.Errorf("Append, when the next segment's name is taken = %d, %d", n, e)
	}
	wantLog(t, l, 0, 4, 2, eights(0, 8)...)
	ok(t, s.Remove("p.8"))
	grow(t, l, "x")
	wantLog(t, l, 0, 8, 3, append(eights(0, 8), "x")...)

	s, l = fill(t, 999)
	for i := range api.MaxFiles - 2 {
		ok(t, s.Create(fmt.Sprint("f", i)))
	}
	if n, e := l.Append(nil); n != 0 || e != api.ErrFull {
		t.Errorf("Append without a file more = %d, %d", n, e)
	}
	wantLog(t, l, 0, 4, 2, eights(0, 8)...)
	ok(t, s.Remove("f0"))
	grow(t, l, "x")
	wantLog(t, l, 0, 8, 3, append(eights(0, 8), "x")...)
}

func TestP42NoFileOfTheLastSegment(t *testing.T) {
	s, l := fill(t, 999)
	ok(t, s.Remove("p.4"))
	if n, e := l.Append(nil); n != 0 || e != api.ErrNone {
		t.Errorf("Append = %d, %d", n, e)
	}
	wantErr(t, "Sync", l.Sync(), api.ErrNone)
	wantNames(t, s, "p.0")
	if l.Next() != 8 || l.Sure() != 4 || l.Segments() != 2 {
		t.Errorf("Next %d, Sure %d, %d segments", l.Next(), l.Sure(), l.Segments())
	}
}

// While the store is down, a log's own errors come ahead of the store's.
func TestP42AndP43StoreDown(t *testing.T) {
	for _, full := range []bool{false, true} {
		s := newStore(t, 999)
		l := open(t, s, 64)
		records := eights(0, 6)
		if full {
			records = eights(0, 8)
		}
		grow(t, l, records...)
		next := l.Next()
		ok(t, s.Crash(99, 1))
		was := tellStore(t, s)
		if n, e := l.Append([]byte("x")); n != 0 || e != api.ErrDown {
			t.Errorf("Append = %d, %d", n, e)
		}
		if n, e := l.Append(make([]byte, api.MaxFrame+1)); n != 0 || e != api.ErrLong {
			t.Errorf("Append of a long one = %d, %d", n, e)
		}
		wantErr(t, "Sync", l.Sync(), api.ErrDown)
		for to := int64(0); to <= next; to++ {
			wantErr(t, fmt.Sprint("Cut to ", to), l.Cut(to), api.ErrDown)
		}
		wantErr(t, "Cut beyond Next", l.Cut(next+1), api.ErrArg)
		wantErr(t, "Drop of the first segment", l.Drop(4), api.ErrDown)
		wantErr(t, "Drop of nothing", l.Drop(3), api.OK)
		wantErr(t, "Drop beyond Next", l.Drop(next+1), api.ErrArg)
		wantErr(t, "Begin", l.Begin(0), api.ErrDown)
		wantErr(t, "Begin at another base", l.Begin(5), api.ErrDown)
		wantErr(t, "Begin below 0", l.Begin(-1), api.ErrArg)
		wantStore(t, s, was)
		if l.Base() != 0 || l.Next() != next || l.Sure() != 4 || l.Segments() != 2 {
			t.Errorf("Base %d, Next %d, Sure %d, %d segments", l.Base(), l.Next(), l.Sure(), l.Segments())
		}
	}
}

func TestP42Sync(t *testing.T) {
	s := newStore(t, 999, "other", "")
	l := open(t, s, 64)
	grow(t, l, "a", "b")
	ok(t, s.Write("other", 0, []byte("x")))
	if l.Sure() != 0 || s.Pending() != 3 {
		t.Errorf("Sure %d, pending %d", l.Sure(), s.Pending())
	}
	for range 2 {
		wantErr(t, "Sync", l.Sync(), api.OK)
		wantLog(t, l, 0, 2, 1, "a", "b")
		if b, e := s.Sure("p.0"); string(b) != frames("a", "b") || e != api.OK || s.Pending() != 1 {
			t.Errorf("sure bytes %q, %d; pending %d", b, e, s.Pending())
		}
	}
	grow(t, l, "c")
	wantLog(t, l, 0, 2, 1, "a", "b", "c")
}

// Cut to each offset there is: what is left, in which files.
func TestP43AndP46CutToEachOffset(t *testing.T) {
	all := eights(0, 18)
	for base := range 2 {
		for to := int64(4 * base); to <= 18; to++ {
			s := newStore(t, 9999, "other", "stays")
			l := open(t, s, 64)
			grow(t, l, all...)
			ok(t, l.Drop(int64(4*base)))
			wantErr(t, fmt.Sprint("Cut to ", to), l.Cut(to), api.OK)
			// Segments begin at 0, 4, 8, 12, 16; but for the first one those whose base is to or above are gone.
			segments := max(int(to+3)/4-base, 1)
			left := all[4*base : to]
			wantLog(t, l, int64(4*base), to, segments, left...)
			names := []string{"other"}
			for _, b := range []int{0, 12, 16, 4, 8} {
				if b >= 4*base && (b == 4*base || int64(b) < to) {
					names = append(names, fmt.Sprint("p.", b))
				}
			}
			wantNames(t, s, names...)
			if s.Pending() != 0 || s.Left() != 9999-5-20*len(left) {
				t.Errorf("Cut to %d: pending %d, left %d", to, s.Pending(), s.Left())
			}
			wantLog(t, open(t, crashed(t, s, 0, 0), 64), int64(4*base), to, segments, left...)
			if n, e := l.Append([]byte("x"), []byte("y")); n != to || e != api.OK {
				t.Errorf("Append behind Cut to %d = %d, %d", to, n, e)
			}
			grow(t, l, eights(50, 70)...)
			want := append(append(left[:len(left):len(left)], "x", "y"), eights(50, 70)...)
			if got := tell(t, l); got != tells(int64(4*base), l.Sure(), l.Segments(), want...) {
				t.Errorf("behind Cut to %d and Append: %s", to, got)
			}
			if got := tell(t, open(t, s, 64)); got != tells(int64(4*base), to+22, l.Segments(), want...) {
				t.Errorf("opened: %s", got)
			}
		}
	}
}

// Records of many lengths in one segment, each of which may be the first to go, again and again.
func TestP46CutWithinASegment(t *testing.T) {
	var all []string
	for i := range 70 {
		all = append(all, strings.Repeat(string(rune('a'+i%26)), i*i%37))
	}
	s := newStore(t, api.MaxRoom)
	l := open(t, s, api.MaxRoom)
	grow(t, l, all...)
	for to := 70; to >= 0; to-- {
		ok(t, l.Cut(int64(to)))
		wantLog(t, l, 0, int64(to), 1, all[:to]...)
		if n, _ := s.Size("p.0"); n != len(frames(all[:to]...)) {
			t.Errorf("Cut to %d: %d bytes", to, n)
		}
		// Others take their places, and go again.
		others := []string{"", fmt.Sprint(to), strings.Repeat("z", to)}
		grow(t, l, others...)
		wantLog(t, l, 0, int64(to), 1, append(all[:to:to], others...)...)
		ok(t, l.Cut(int64(to)+1))
		ok(t, l.Cut(int64(to)))
		grow(t, l, eights(0, 20)...)
		wantLog(t, l, 0, int64(to), 1, append(all[:to:to], eights(0, 20)...)...)
		ok(t, l.Cut(int64(to)))
	}
}

func TestP43CutOutsideTheLog(t *testing.T) {
	s := newStore(t, 9999, "p.5", frames(eights(0, 4)...), "p.9", frames("x"))
	l := open(t, s, 64)
	grow(t, l, "y")
	was, wasStore := tell(t, l), tellStore(t, s)
	for _, to := range []int64{4, 12, -1, 0, math.MinInt64, math.MaxInt64} {
		wantErr(t, fmt.Sprint("Cut to ", to), l.Cut(to), api.ErrArg)
	}
	wantStore(t, s, wasStore)
	if got := tell(t, l); got != was {
		t.Errorf("is: %s\nwas: %s", got, was)
	}
	// To Next: nothing goes, but all is sure.
	wantErr(t, "Cut to Next", l.Cut(11), api.OK)
	wantLog(t, l, 5, 11, 2, append(eights(0, 4), "x", "y")...)
	if s.Pending() != 0 {
		t.Errorf("pending %d", s.Pending())
	}
	wantErr(t, "Cut to Base", l.Cut(5), api.OK)
	wantLog(t, l, 5, 5, 1)
	wantErr(t, "Cut of an empty log", l.Cut(5), api.OK)
	wantErr(t, "Cut of an empty log above", l.Cut(6), api.ErrArg)
	wantNames(t, s, "p.5")
}

// A segment that was created in vain is empty: Cut to Next removes it.
func TestP43CutOfAnEmptyLastSegment(t *testing.T) {
	s, l := fill(t, 19)
	_, e := l.Append([]byte("12345678"))
	wantErr(t, "Append without room", e, api.ErrRoom)
	wantErr(t, "Cut to Next", l.Cut(8), api.OK)
	wantLog(t, l, 0, 8, 2, eights(0, 8)...)
	wantNames(t, s, "p.0", "p.4")
}

// When files are gone, or damaged, the log is what is left behind the error.
func TestP43CutErrors(t *testing.T) {
	three := func() (*store.Store, *seglog.Log) {
		s := newStore(t, 9999)
		l := open(t, s, 64)
		grow(t, l, eights(0, 11)...)
		return s, l
	}
	s, l := three()
	ok(t, s.Remove("p.4"))
	wantErr(t, "Cut, the second file gone", l.Cut(2), api.ErrNone)
	wantNames(t, s, "p.0")
	if l.Base() != 0 || l.Next() != 8 || l.Sure() != 8 || l.Segments() != 2 {
		t.Errorf("Next %d, Sure %d, %d segments", l.Next(), l.Sure(), l.Segments())
	}

	s, l = three()
	ok(t, s.Remove("p.8"))
	wantErr(t, "Cut, the last file gone", l.Cut(2), api.ErrNone)
	wantErr(t, "Cut to Next, the last file gone", l.Cut(11), api.ErrNone)
	wantNames(t, s, "p.0", "p.4")
	if l.Next() != 11 || l.Segments() != 3 {
		t.Errorf("Next %d, %d segments", l.Next(), l.Segments())
	}

	s, l = three()
	ok(t, s.Cut("p.8", 59))
	wantErr(t, "Cut to Next, the last file cut", l.Cut(11), api.ErrSpot)
	wantErr(t, "Cut to what is there of it", l.Cut(10), api.OK)
	wantLog(t, l, 0, 10, 3, eights(0, 10)...)

	s, l = three()
	ok(t, s.Write("p.4", 25, []byte("!")))
	was := tellStore(t, s)
	wantErr(t, "Cut behind damage", l.Cut(7), api.ErrFrame)
	wantStore(t, s, was)
	if l.Next() != 11 || l.Segments() != 3 {
		t.Errorf("Next %d, %d segments", l.Next(), l.Segments())
	}
	wantErr(t, "Cut ahead of damage", l.Cut(5), api.OK)
	wantLog(t, l, 0, 5, 2, eights(0, 5)...)
}

func TestP43Drop(t *testing.T) {
	all := eights(0, 18)
	for below := int64(-2); below <= 18; below++ {
		s := newStore(t, 9999, "other", "stays")
		l := open(t, s, 64)
		grow(t, l, all...)
		pending := s.Pending()
		wantErr(t, fmt.Sprint("Drop below ", below), l.Drop(below), api.OK)
		// Segments end at 4, 8, 12, 16; the last one stays.
		gone := max(min(int(below)/4, 4), 0)
		wantLog(t, l, int64(4*gone), 16, 5-gone, all[4*gone:]...)
		names := []string{"other"}
		for _, b := range []int{0, 12, 16, 4, 8} {
			if b >= 4*gone {
				names = append(names, fmt.Sprint("p.", b))
			}
		}
		wantNames(t, s, names...)
		if s.Pending() != pending {
			t.Errorf("pending %d, was %d", s.Pending(), pending)
		}
		wantErr(t, "Drop again", l.Drop(below), api.OK)
		grow(t, l, eights(18, 24)...)
		wantLog(t, l, int64(4*gone), 20, 6-gone, eights(4*gone, 24)...)
		wantLog(t, open(t, s, 64), int64(4*gone), 24, 6-gone, eights(4*gone, 24)...)
	}
}

func TestP43DropOutside(t *testing.T) {
	s := newStore(t, 9999)
	l := open(t, s, 64)
	wantErr(t, "Drop of an empty log", l.Drop(0), api.OK)
	wantErr(t, "Drop of an empty log above", l.Drop(1), api.ErrArg)
	grow(t, l, eights(0, 8)...)
	was := tellStore(t, s)
	for _, below := range []int64{9, 10, math.MaxInt64} {
		wantErr(t, fmt.Sprint("Drop below ", below), l.Drop(below), api.ErrArg)
	}
	wantErr(t, "Drop of nothing", l.Drop(math.MinInt64), api.OK)
	wantStore(t, s, was)
	// All are below, but the last segment stays.
	wantErr(t, "Drop of all", l.Drop(8), api.OK)
	wantLog(t, l, 4, 4, 1, eights(4, 8)...)
	wantErr(t, "Drop of what is gone", l.Drop(0), api.OK)
	wantErr(t, "Cut to what is gone", l.Cut(3), api.ErrArg)
	// An empty last segment is one, too: those ahead of it may go.
	s, l = fill(t, 19)
	_, e := l.Append([]byte("12345678"))
	wantErr(t, "Append without room", e, api.ErrRoom)
	wantErr(t, "Drop", l.Drop(8), api.OK)
	wantLog(t, l, 8, 8, 1)
	wantNames(t, s, "p.8")
}

func TestP43DropErrors(t *testing.T) {
	s := newStore(t, 9999)
	l := open(t, s, 64)
	grow(t, l, eights(0, 18)...)
	ok(t, s.Remove("p.8"))
	wantErr(t, "Drop, the third file gone", l.Drop(18), api.ErrNone)
	wantNames(t, s, "p.12", "p.16")
	if l.Base() != 8 || l.Next() != 18 || l.Sure() != 16 || l.Segments() != 3 {
		t.Errorf("Base %d, Next %d, Sure %d, %d segments", l.Base(), l.Next(), l.Sure(), l.Segments())
	}
	if b, e := l.Read(13); string(b) != "00000013" || e != api.OK {
		t.Errorf("Read(13) = %q, %d", b, e)
	}
}

func TestP43Begin(t *testing.T) {
	for _, base := range []int64{0, 1, 4, 5, 8, 9, 11, 12, 100, api.MaxNum - 1, api.MaxNum} {
		for drop := range int64(2) {
			s := newStore(t, 9999, "other", "stays")
			l := open(t, s, 64)
			grow(t, l, eights(0, 11)...)
			ok(t, l.Drop(4*drop))
			wantErr(t, fmt.Sprint("Begin at ", base), l.Begin(base), api.OK)
			wantLog(t, l, base, base, 1)
			wantNames(t, s, "other", fmt.Sprint("p.", base))
			if s.Pending() != 0 || s.Left() != 9999-5 {
				t.Errorf("Begin at %d: pending %d, left %d", base, s.Pending(), s.Left())
			}
			wantLog(t, open(t, crashed(t, s, 0, 0), 64), base, base, 1)
			if base == api.MaxNum {
				continue
			}
			grow(t, l, "x")
			wantLog(t, l, base, base, 1, "x")
			wantLog(t, open(t, s, 64), base, base+1, 1, "x")
			ok(t, l.Begin(base))
			wantLog(t, l, base, base, 1)
			if base == api.MaxNum-1 {
				continue
			}
			grow(t, l, "y", "z")
			ok(t, l.Begin(base+1))
			wantLog(t, l, base+1, base+1, 1)
		}
	}
}

func TestP43BeginOutside(t *testing.T) {
	s := newStore(t, 9999)
	l := open(t, s, 64)
	grow(t, l, eights(0, 6)...)
	was := tellStore(t, s)
	for _, base := range []int64{-1, api.MaxNum + 1, math.MinInt64, math.MaxInt64} {
		wantErr(t, fmt.Sprint("Begin at ", base), l.Begin(base), api.ErrArg)
	}
	wantStore(t, s, was)
	wantLog(t, l, 0, 4, 2, eights(0, 6)...)
}

func TestP43BeginErrors(t *testing.T) {
	// A file that has the name to which the first segment is renamed is no more.
	s := newStore(t, 9999)
	l := open(t, s, 64)
	grow(t, l, "a")
	ok(t, s.Create("p.70"))
	ok(t, s.Write("p.70", 0, []byte("somebody's")))
	wantErr(t, "Begin", l.Begin(70), api.OK)
	wantLog(t, l, 70, 70, 1)
	wantStore(t, s, `up true, pending 0, left 9999; "p.70" "" ""`)

	s = newStore(t, 9999)
	l = open(t, s, 64)
	grow(t, l, eights(0, 11)...)
	ok(t, s.Remove("p.4"))
	wantErr(t, "Begin, the second file gone", l.Begin(70), api.ErrNone)
	wantNames(t, s, "p.0")
	if l.Base() != 0 || l.Next() != 8 || l.Segments() != 2 {
		t.Errorf("Base %d, Next %d, %d segments", l.Base(), l.Next(), l.Segments())
	}
	// Damage is not in its way.
	s = newStore(t, 9999)
	l = open(t, s, 64)
	grow(t, l, eights(0, 6)...)
	ok(t, s.Write("p.0", 0, []byte("damage")))
	wantErr(t, "Begin", l.Begin(3), api.OK)
	wantLog(t, l, 3, 3, 1)
}
