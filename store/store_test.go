package store_test

import (
	"bytes"
	"fmt"
	"math"
	"math/rand"
	"runtime"
	"slices"
	"strings"
	"testing"

	"pontoon/api"
	"pontoon/store"
)

// newStore is a store with these files, whose bytes are sure: each NAME=BYTES.
func newStore(t *testing.T, room int, files ...string) *store.Store {
	t.Helper()
	s, e := store.New(room)
	if e != api.OK {
		t.Fatalf("New(%d): %d", room, e)
	}
	for _, f := range files {
		name, content, _ := strings.Cut(f, "=")
		ok(t, s.Create(name))
		ok(t, s.Write(name, 0, []byte(content)))
		ok(t, s.Sync(name))
	}
	return s
}

func ok(t *testing.T, e api.Errno) {
	t.Helper()
	if e != api.OK {
		t.Fatalf("error %d", e)
	}
}

func wantErr(t *testing.T, what string, got, want api.Errno) {
	t.Helper()
	if got != want {
		t.Errorf("%s = %d, want %d", what, got, want)
	}
}

// wantTells holds all that is to be seen of a store against a text: how many writes are pending, the room that is left, and of each file NAME=BYTES/SURE.
func wantTells(t *testing.T, s *store.Store, pending, left int, files ...string) {
	t.Helper()
	want := fmt.Sprintf("up %t, pending %d, left %d", s.Up(), pending, left)
	for _, f := range files {
		name, rest, _ := strings.Cut(f, "=")
		content, sure, _ := strings.Cut(rest, "/")
		want += fmt.Sprintf("; %q %q %q", name, content, sure)
	}
	if got := tell(t, s); got != want {
		t.Errorf("is:   %s\nwant: %s", got, want)
	}
}

func TestP31New(t *testing.T) {
	for _, room := range []int{0, 1, 4096, api.MaxRoom - 1, 1 << 22} {
		s, e := store.New(room)
		if e != api.OK || !s.Up() || s.Left() != room || s.Pending() != 0 || len(slices.Collect(s.Names())) != 0 {
			t.Errorf("New(%d): %d, up %t, left %d, pending %d", room, e, s.Up(), s.Left(), s.Pending())
		}
	}
	for _, room := range []int{-1, 1<<22 + 1, math.MinInt, math.MaxInt, -api.MaxRoom} {
		if s, e := store.New(room); s != nil || e != api.ErrArg {
			t.Errorf("New(%d) = %v, %d", room, s, e)
		}
	}
}

func TestP31RoomAtItsEdges(t *testing.T) {
	none := newStore(t, 0, "a=")
	wantErr(t, "Write of no bytes without room", none.Write("a", 0, nil), api.OK)
	wantErr(t, "Write of a byte without room", none.Write("a", 0, []byte{1}), api.ErrRoom)
	wantTells(t, none, 0, 0, "a=/")

	most := newStore(t, api.MaxRoom, "a=", "b=")
	full := bytes.Repeat([]byte{7}, api.MaxRoom)
	wantErr(t, "Write of one byte more than MaxRoom", most.Write("a", 0, append(full, 8)), api.ErrRoom)
	ok(t, most.Write("a", 0, full))
	wantErr(t, "Write to another file", most.Write("b", 0, []byte{1}), api.ErrRoom)
	if got, e := most.Read("a", 0, api.MaxRoom); e != api.OK || !bytes.Equal(got, full) || most.Left() != 0 {
		t.Errorf("Read of all: %d bytes, %d; left %d", len(got), e, most.Left())
	}
}

func TestP31Create(t *testing.T) {
	s := newStore(t, 9)
	names := []string{"a", "A", " ", "\x00", "\xff\xfe", "a/b", "ü", strings.Repeat("long", 10000)}
	for _, name := range names {
		wantErr(t, fmt.Sprintf("Create(%.9q)", name), s.Create(name), api.OK)
		if n, e := s.Size(name); n != 0 || e != api.OK {
			t.Errorf("Size of a new file: %d, %d", n, e)
		}
	}
	ok(t, s.Write("a", 0, []byte("xyz")))
	for _, name := range append(names, "") {
		wantErr(t, fmt.Sprintf("Create(%.9q) again", name), s.Create(name), api.ErrName)
	}
	if got, _ := s.Read("a", 0, 3); string(got) != "xyz" || s.Pending() != 1 {
		t.Errorf("a refused Create left %q, %d", got, s.Pending())
	}
}

func TestP31MaxFiles(t *testing.T) {
	s := newStore(t, 9)
	for i := range 4096 {
		ok(t, s.Create(fmt.Sprint("f", i)))
	}
	wantErr(t, "Create of one more", s.Create("more"), api.ErrFull)
	wantErr(t, "Create of a name that a file has", s.Create("f7"), api.ErrName)
	wantErr(t, "Create of the empty name", s.Create(""), api.ErrName)
	wantErr(t, "Write to the one that is not there", s.Write("more", 0, nil), api.ErrNone)
	if n := len(slices.Collect(s.Names())); n != 4096 {
		t.Errorf("%d names", n)
	}
	// A new name is no new file.
	ok(t, s.Rename("f7", "other"))
	wantErr(t, "Create behind a Rename", s.Create("f7"), api.ErrFull)
	ok(t, s.Rename("f8", "f9"))
	ok(t, s.Create("f8"))
	wantErr(t, "Create of one more again", s.Create("more"), api.ErrFull)
	ok(t, s.Remove("f8"))
	ok(t, s.Create("more"))
}

func TestP31Write(t *testing.T) {
	for _, c := range []struct {
		at   int
		b    string
		want string
		e    api.Errno
	}{
		{0, "XY", "XYcd", api.OK},
		{1, "XY", "aXYd", api.OK},
		{2, "XY", "abXY", api.OK},
		{3, "XY", "abcXY", api.OK},
		{4, "XY", "abcdXY", api.OK},
		{5, "XY", "", api.ErrSpot},
		{0, "UVWXYZ", "UVWXYZ", api.OK},
		{-1, "XY", "", api.ErrSpot},
		{-1, "", "", api.ErrSpot},
		{5, "", "", api.ErrSpot},
		{math.MinInt, "XY", "", api.ErrSpot},
		{math.MaxInt, "XY", "", api.ErrSpot},
		{math.MaxInt, "", "", api.ErrSpot},
		{5, strings.Repeat("x", 30), "", api.ErrSpot},
		{4, "123456", "abcd123456", api.OK},
		{4, "1234567", "", api.ErrRoom},
		{0, "0123456789", "0123456789", api.OK},
		{0, "0123456789!", "", api.ErrRoom},
	} {
		s := newStore(t, 12, "a=abcd", "b=xy")
		e := s.Write("a", c.at, []byte(c.b))
		wantErr(t, fmt.Sprintf("Write(a, %d, %q)", c.at, c.b), e, c.e)
		if e == api.OK {
			wantTells(t, s, 1, 10-len(c.want), "a="+c.want+"/abcd", "b=xy/xy")
		} else {
			wantTells(t, s, 0, 6, "a=abcd/abcd", "b=xy/xy")
		}
	}
}

func TestP31WriteOfNoBytes(t *testing.T) {
	s := newStore(t, 4, "a=abcd")
	for at := 0; at <= 4; at++ {
		wantErr(t, "Write(nil)", s.Write("a", at, nil), api.OK)
		wantErr(t, "Write of an empty list", s.Write("a", at, []byte{}), api.OK)
	}
	wantTells(t, s, 0, 0, "a=abcd/abcd")
	// A full store takes what lies within its files, and nothing behind them.
	wantErr(t, "Write over all", s.Write("a", 0, []byte("wxyz")), api.OK)
	wantErr(t, "Write of one byte behind the end", s.Write("a", 4, []byte("!")), api.ErrRoom)
	wantErr(t, "Write across the end", s.Write("a", 3, []byte("!!")), api.ErrRoom)
	wantTells(t, s, 1, 0, "a=wxyz/abcd")
}

func TestP31WritesUponWrites(t *testing.T) {
	s := newStore(t, 20, "a=abc")
	ok(t, s.Write("a", 3, []byte("def")))
	ok(t, s.Write("a", 2, []byte("XYZ")))
	// The spot is held against what is read, not against what is sure.
	ok(t, s.Write("a", 6, []byte("g")))
	wantErr(t, "Write behind all pending ones", s.Write("a", 8, []byte("h")), api.ErrSpot)
	wantTells(t, s, 3, 13, "a=abXYZfg/abc")
	ok(t, s.Sync("a"))
	wantTells(t, s, 0, 13, "a=abXYZfg/abXYZfg")
}

func TestP31SyncTouchesItsFileAlone(t *testing.T) {
	s := newStore(t, 20, "a=aa", "b=bb")
	ok(t, s.Write("a", 1, []byte("1")))
	ok(t, s.Write("b", 1, []byte("2")))
	ok(t, s.Write("a", 2, []byte("3")))
	ok(t, s.Sync("a"))
	wantTells(t, s, 1, 15, "a=a13/a13", "b=b2/bb")
	ok(t, s.Sync("a"))
	wantTells(t, s, 1, 15, "a=a13/a13", "b=b2/bb")
	ok(t, s.Crash(0, 0))
	wantTells(t, s, 0, 15, "a=a13/a13", "b=bb/bb")
}

func TestP31Cut(t *testing.T) {
	for _, c := range []struct {
		n    int
		want string
		e    api.Errno
	}{
		{0, "", api.OK},
		{1, "a", api.OK},
		{2, "aX", api.OK},
		{4, "aXYd", api.OK},
		{5, "aXYde", api.OK},
		{6, "", api.ErrSpot},
		{-1, "", api.ErrSpot},
		{math.MinInt, "", api.ErrSpot},
		{math.MaxInt, "", api.ErrSpot},
	} {
		s := newStore(t, 10, "a=abcd", "b=xy")
		ok(t, s.Write("b", 0, []byte("z")))
		ok(t, s.Write("a", 1, []byte("XY")))
		ok(t, s.Write("a", 4, []byte("e")))
		e := s.Cut("a", c.n)
		wantErr(t, fmt.Sprintf("Cut(a, %d)", c.n), e, c.e)
		if e == api.OK {
			wantTells(t, s, 1, 8-len(c.want), "a="+c.want+"/"+c.want, "b=zy/xy")
		} else {
			wantTells(t, s, 3, 3, "a=aXYde/abcd", "b=zy/xy")
		}
	}
}

func TestP31CutGivesRoomBack(t *testing.T) {
	s := newStore(t, 4, "a=abcd", "b=")
	ok(t, s.Cut("a", 1))
	wantErr(t, "Write of too much", s.Write("b", 0, []byte("1234")), api.ErrRoom)
	ok(t, s.Write("b", 0, []byte("123")))
	wantErr(t, "Write where it was cut", s.Write("a", 1, []byte("x")), api.ErrRoom)
	wantErr(t, "Write behind where it was cut", s.Write("a", 2, nil), api.ErrSpot)
	// What was cut off does not come back.
	ok(t, s.Crash(1, 0))
	wantTells(t, s, 0, 0, "a=a/a", "b=123/123")
}

func TestP31Rename(t *testing.T) {
	s := newStore(t, 20, "a=aaa", "b=bbbb")
	ok(t, s.Write("a", 1, []byte("12")))
	ok(t, s.Write("b", 0, []byte("z")))
	ok(t, s.Write("a", 3, []byte("3")))
	wantErr(t, "Rename to the empty name", s.Rename("a", ""), api.ErrName)
	wantErr(t, "Rename to its own name", s.Rename("a", "a"), api.OK)
	wantErr(t, "Rename of none to its own name", s.Rename("c", "c"), api.ErrNone)
	wantErr(t, "Rename of none to the empty name", s.Rename("c", ""), api.ErrNone)
	wantErr(t, "Rename of the empty name", s.Rename("", "a"), api.ErrNone)
	wantTells(t, s, 3, 12, "a=a123/aaa", "b=zbbb/bbbb")
	ok(t, s.Rename("a", "c"))
	wantTells(t, s, 3, 12, "b=zbbb/bbbb", "c=a123/aaa")
	wantErr(t, "Sync of the old name", s.Sync("a"), api.ErrNone)
	// The file that had the name is no more, nor are its pending writes.
	ok(t, s.Rename("c", "b"))
	wantTells(t, s, 2, 16, "b=a123/aaa")
	ok(t, s.Crash(1, 0))
	wantTells(t, s, 0, 17, "b=a12/a12")
}

func TestP31RenameKeepsTheOrder(t *testing.T) {
	s := newStore(t, 20, "a=", "b=")
	ok(t, s.Write("a", 0, []byte("1")))
	ok(t, s.Write("b", 0, []byte("2")))
	ok(t, s.Write("a", 1, []byte("3")))
	ok(t, s.Rename("a", "z"))
	ok(t, s.Create("a"))
	ok(t, s.Write("a", 0, []byte("4")))
	for keep, want := range [][]string{{"a=/", "b=/", "z=/"}, {"a=/", "b=/", "z=1/1"}, {"a=/", "b=2/2", "z=1/1"}, {"a=/", "b=2/2", "z=13/13"}, {"a=4/4", "b=2/2", "z=13/13"}} {
		c := s.Clone()
		ok(t, c.Crash(keep, 0))
		wantTells(t, c, 0, 20-keep, want...)
	}
}

func TestP31Remove(t *testing.T) {
	s := newStore(t, 10, "a=abcd", "b=xy")
	ok(t, s.Write("b", 2, []byte("z")))
	ok(t, s.Write("a", 0, []byte("1")))
	ok(t, s.Write("a", 4, []byte("23")))
	ok(t, s.Remove("a"))
	wantTells(t, s, 1, 7, "b=xyz/xy")
	wantErr(t, "Remove again", s.Remove("a"), api.ErrNone)
	wantErr(t, "Remove of the empty name", s.Remove(""), api.ErrNone)
	// A new file of that name has nothing of the old one, and a crash brings nothing back.
	ok(t, s.Create("a"))
	ok(t, s.Crash(0, 1))
	wantTells(t, s, 0, 7, "a=/", "b=xyz/xyz")
}

func TestP32Read(t *testing.T) {
	s := newStore(t, 10, "a=abcd", "e=")
	ok(t, s.Write("a", 3, []byte("XY")))
	const now = "abcXY"
	for at := -1; at <= 6; at++ {
		for n := -1; n <= 7; n++ {
			got, e := s.Read("a", at, n)
			if at < 0 || n < 0 || at+n > len(now) {
				if got != nil || e != api.ErrSpot {
					t.Errorf("Read(%d, %d) = %q, %d", at, n, got, e)
				}
			} else if string(got) != now[at:at+n] || e != api.OK {
				t.Errorf("Read(%d, %d) = %q, %d", at, n, got, e)
			}
		}
	}
	for _, c := range [][2]int{{1, math.MaxInt}, {math.MaxInt, 1}, {math.MaxInt, math.MaxInt}, {math.MinInt, 1}, {1, math.MinInt}, {math.MinInt, math.MinInt}, {math.MinInt, math.MaxInt}, {6, -1}, {math.MaxInt, math.MinInt}} {
		if got, e := s.Read("a", c[0], c[1]); got != nil || e != api.ErrSpot {
			t.Errorf("Read(%d, %d) = %q, %d", c[0], c[1], got, e)
		}
	}
	if got, e := s.Read("e", 0, 0); len(got) != 0 || e != api.OK {
		t.Errorf("Read of an empty file = %q, %d", got, e)
	}
	if got, e := s.Read("none", -1, -1); got != nil || e != api.ErrNone {
		t.Errorf("Read of no file = %q, %d", got, e)
	}
}

func TestP32SizeAndSure(t *testing.T) {
	s := newStore(t, 20, "a=abcd")
	ok(t, s.Write("a", 2, []byte("123")))
	ok(t, s.Write("a", 0, []byte("4")))
	ok(t, s.Write("a", 4, []byte("567")))
	if n, e := s.Size("a"); n != 7 || e != api.OK {
		t.Errorf("Size = %d, %d", n, e)
	}
	for range 2 {
		if got, e := s.Sure("a"); string(got) != "abcd" || e != api.OK {
			t.Errorf("Sure = %q, %d", got, e)
		}
	}
	if got, e := s.Read("a", 0, 7); string(got) != "4b12567" || e != api.OK {
		t.Errorf("Read = %q, %d", got, e)
	}
	if n, e := s.Size("b"); n != 0 || e != api.ErrNone {
		t.Errorf("Size of no file = %d, %d", n, e)
	}
	if got, e := s.Sure(""); got != nil || e != api.ErrNone {
		t.Errorf("Sure of no file = %q, %d", got, e)
	}
}

func TestP32NamesRise(t *testing.T) {
	want := []string{"\x00", " ", "A", "B", "a", "a\x00", "aa", "ab", "b", "ck.1.10", "ck.1.2", "z", "ß", "\xff"}
	s := newStore(t, 9)
	for _, i := range rand.New(rand.NewSource(1)).Perm(len(want)) {
		ok(t, s.Create(want[i]))
	}
	if got := slices.Collect(s.Names()); !slices.Equal(got, want) {
		t.Errorf("Names: %q", got)
	}
	ok(t, s.Crash(0, 0))
	if got := slices.Collect(s.Names()); !slices.Equal(got, want) {
		t.Errorf("Names, when it is down: %q", got)
	}
}

func TestP32LeftAndPendingOfAStoreThatIsDown(t *testing.T) {
	s := newStore(t, 20, "a=abc")
	ok(t, s.Write("a", 3, []byte("defg")))
	ok(t, s.Write("a", 0, []byte("X")))
	if s.Pending() != 2 || s.Left() != 13 || !s.Up() {
		t.Errorf("pending %d, left %d, up %t", s.Pending(), s.Left(), s.Up())
	}
	ok(t, s.Crash(0, 2))
	if s.Pending() != 0 || s.Left() != 15 || s.Up() {
		t.Errorf("down: pending %d, left %d, up %t", s.Pending(), s.Left(), s.Up())
	}
}

func TestP33Examples(t *testing.T) {
	for _, c := range []struct {
		keep, torn int
		want       []byte
	}{
		{1, 0, []byte{1, 9, 9}},
		{0, 1, []byte{1, 9, 3}},
		{2, 0, []byte{1, 9, 9, 4}},
	} {
		s := newStore(t, 10, "f=")
		ok(t, s.Write("f", 0, []byte{1, 2, 3}))
		ok(t, s.Sync("f"))
		ok(t, s.Write("f", 1, []byte{9, 9}))
		ok(t, s.Write("f", 3, []byte{4}))
		ok(t, s.Crash(c.keep, c.torn))
		ok(t, s.Start())
		if got, e := s.Sure("f"); !bytes.Equal(got, c.want) || e != api.OK || s.Left() != 10-len(c.want) {
			t.Errorf("Crash(%d, %d): %v, %d, left %d", c.keep, c.torn, got, e, s.Left())
		}
	}
}

func TestP33KeepAndTorn(t *testing.T) {
	// Three pending writes; the third one has 4 bytes, so that torn counts modulo 5 behind two.
	for _, c := range []struct {
		keep, torn int
		want       string
	}{
		{0, 0, "abc"},
		{0, 1, "Xbc"},
		{0, 2, "XYc"},
		{0, 3, "abc"},
		{0, -1, "Xbc"},
		{0, -5, "XYc"},
		{1, 0, "XYc"},
		{1, 1, "XYcd"},
		{1, 2, "XYc"},
		{2, 0, "XYcd"},
		{2, 1, "XYPd"},
		{2, 2, "XYPQ"},
		{2, 3, "XYPQR"},
		{2, 4, "XYPQRS"},
		{2, 5, "XYcd"},
		{2, 9, "XYPQRS"},
		{2, -3, "XYPQR"},
		{3, 0, "XYPQRS"},
		{3, 1, "XYPQRS"},
		{3, math.MaxInt, "XYPQRS"},
		{4, 0, "abc"},
		{5, 0, "XYc"},
		{-1, 0, "XYc"},
		{-2, -2, "XYPQ"},
		{-3, 0, "XYPQRS"},
		{-4, 0, "abc"},
		{math.MinInt, 0, "abc"},
		{math.MinInt, 1, "Xbc"},
		{2, math.MinInt, "XYcd"},
		{math.MinInt, math.MinInt, "abc"},
		// The greatest int is 3 modulo 4, and 2 modulo 5.
		{math.MaxInt, 0, "XYPQRS"},
		{math.MinInt + 1, 0, "XYPQRS"},
		{2, math.MaxInt, "XYPQ"},
		{2, math.MinInt + 1, "XYPQ"},
	} {
		s := newStore(t, 10, "a=abc")
		ok(t, s.Write("a", 0, []byte("XY")))
		ok(t, s.Write("a", 3, []byte("d")))
		ok(t, s.Write("a", 2, []byte("PQRS")))
		wantErr(t, fmt.Sprintf("Crash(%d, %d)", c.keep, c.torn), s.Crash(c.keep, c.torn), api.OK)
		wantTells(t, s, 0, 10-len(c.want), "a="+c.want+"/"+c.want)
	}
}

func TestP33OneOrderOverAllFiles(t *testing.T) {
	s := newStore(t, 40, "a=aaa", "b=bbb", "c=ccc")
	ok(t, s.Write("c", 0, []byte("1")))
	ok(t, s.Write("a", 2, []byte("23")))
	ok(t, s.Write("c", 3, []byte("4")))
	ok(t, s.Write("b", 0, []byte("5")))
	ok(t, s.Write("a", 0, []byte("6")))
	ok(t, s.Write("c", 0, []byte("78")))
	for keep, want := range [][3]string{
		{"aaa", "bbb", "ccc"},
		{"aaa", "bbb", "1cc"},
		{"aa23", "bbb", "1cc"},
		{"aa23", "bbb", "1cc4"},
		{"aa23", "5bb", "1cc4"},
		{"6a23", "5bb", "1cc4"},
		{"6a23", "5bb", "78c4"},
	} {
		c := s.Clone()
		ok(t, c.Crash(keep, 0))
		left := 40 - len(want[0]+want[1]+want[2])
		wantTells(t, c, 0, left, "a="+want[0]+"/"+want[0], "b="+want[1]+"/"+want[1], "c="+want[2]+"/"+want[2])
	}
	torn := s.Clone()
	ok(t, torn.Crash(1, 1))
	wantTells(t, torn, 0, 31, "a=aa2/aa2", "b=bbb/bbb", "c=1cc/1cc")
	// Those that are synced, or gone with their file, have no place in the order any more.
	ok(t, s.Sync("a"))
	ok(t, s.Remove("b"))
	ok(t, s.Crash(2, 1))
	wantTells(t, s, 0, 32, "a=6a23/6a23", "c=7cc4/7cc4")
}

func TestP33ThereAgain(t *testing.T) {
	s := newStore(t, 20, "a=abc")
	wantErr(t, "Start of one that is up", s.Start(), api.ErrArg)
	ok(t, s.Write("a", 1, []byte("XYZ")))
	ok(t, s.Crash(0, 1))
	if s.Up() {
		t.Error("up behind a crash")
	}
	wantErr(t, "Crash of one that is down", s.Crash(1, 0), api.ErrDown)
	ok(t, s.Start())
	wantErr(t, "Start twice", s.Start(), api.ErrArg)
	if !s.Up() {
		t.Error("down behind Start")
	}
	// It goes on from what is left, through more crashes.
	ok(t, s.Write("a", 3, []byte("de")))
	ok(t, s.Write("a", 0, []byte("__")))
	wantTells(t, s, 2, 15, "a=__cde/aXc")
	ok(t, s.Crash(1, 0))
	ok(t, s.Start())
	wantTells(t, s, 0, 15, "a=aXcde/aXcde")
	ok(t, s.Crash(5, 5))
	wantTells(t, s, 0, 15, "a=aXcde/aXcde")
}

func TestP33DownAnswersErrDown(t *testing.T) {
	s := newStore(t, 20, "a=abc", "b=x")
	ok(t, s.Crash(0, 0))
	before := tell(t, s)
	for _, name := range []string{"a", "none", ""} {
		wantErr(t, "Create", s.Create(name), api.ErrDown)
		wantErr(t, "Write", s.Write(name, -1, make([]byte, 30)), api.ErrDown)
		wantErr(t, "Write of nothing", s.Write(name, 0, nil), api.ErrDown)
		wantErr(t, "Cut", s.Cut(name, -1), api.ErrDown)
		wantErr(t, "Cut to 0", s.Cut(name, 0), api.ErrDown)
		wantErr(t, "Sync", s.Sync(name), api.ErrDown)
		wantErr(t, "Rename", s.Rename(name, "b"), api.ErrDown)
		wantErr(t, "Rename to its own name", s.Rename(name, name), api.ErrDown)
		wantErr(t, "Rename to the empty name", s.Rename(name, ""), api.ErrDown)
		wantErr(t, "Remove", s.Remove(name), api.ErrDown)
		if b, e := s.Read(name, 0, 1); b != nil || e != api.ErrDown {
			t.Errorf("Read(%q) = %v, %d", name, b, e)
		}
		if n, e := s.Size(name); n != 0 || e != api.ErrDown {
			t.Errorf("Size(%q) = %d, %d", name, n, e)
		}
		if b, e := s.Sure(name); b != nil || e != api.ErrDown {
			t.Errorf("Sure(%q) = %v, %d", name, b, e)
		}
	}
	wantErr(t, "Crash", s.Crash(0, 0), api.ErrDown)
	if after := tell(t, s); after != before {
		t.Errorf("is:  %s\nwas: %s", after, before)
	}
}

func TestP33CloneGoesItsOwnWay(t *testing.T) {
	s := newStore(t, 30, "a=abcdef", "b=xy")
	ok(t, s.Write("a", 1, []byte("12")))
	ok(t, s.Write("b", 2, []byte("z")))
	c := s.Clone()
	was := tell(t, s)
	if tell(t, c) != was {
		t.Fatalf("the clone is: %s\nwant: %s", tell(t, c), was)
	}
	// Each writes behind what both have: were the lists one, the later write would be in both.
	ok(t, c.Write("a", 0, []byte("CC")))
	ok(t, c.Write("a", 6, []byte("CC")))
	if got := tell(t, s); got != was {
		t.Errorf("behind the clone's writes: %s\nwant: %s", got, was)
	}
	ok(t, s.Write("a", 3, []byte("SSSS")))
	ok(t, s.Write("b", 0, []byte("S")))
	wantTells(t, c, 4, 19, "a=CC2defCC/abcdef", "b=xyz/xy")
	wantTells(t, s, 4, 20, "a=a12SSSS/abcdef", "b=Syz/xy")
	d := c.Clone()
	ok(t, d.Remove("a"))
	ok(t, d.Rename("b", "q"))
	ok(t, d.Create("n"))
	ok(t, s.Crash(2, 2))
	wantTells(t, s, 0, 21, "a=a12SSf/a12SSf", "b=xyz/xyz")
	if !c.Up() || !d.Up() {
		t.Error("a crash has its clones be down")
	}
	wantTells(t, c, 4, 19, "a=CC2defCC/abcdef", "b=xyz/xy")
	wantTells(t, d, 1, 27, "n=/", "q=xyz/xy")
	down := s.Clone()
	if down.Up() || down.Start() != api.OK || s.Up() {
		t.Error("a clone of one that is down")
	}
	ok(t, c.Crash(0, 0))
	wantTells(t, c, 0, 22, "a=abcdef/abcdef", "b=xy/xy")
}

// A list with room behind it is the one in which two clones could write over each other.
func TestP33CloneHasItsOwnPendingWrites(t *testing.T) {
	for n := range 20 {
		s := newStore(t, 99, "a=")
		for i := range n {
			ok(t, s.Write("a", i, []byte("x")))
		}
		c := s.Clone()
		ok(t, s.Write("a", n, []byte("ss")))
		ok(t, c.Write("a", 0, []byte("cccccccccccccccccccccccc")))
		ok(t, s.Crash(n, 1))
		ok(t, c.Crash(n, 0))
		xs := strings.Repeat("x", n)
		wantTells(t, s, 0, 98-n, "a="+xs+"s/"+xs+"s")
		wantTells(t, c, 0, 99-n, "a="+xs+"/"+xs)
	}
}

// crashes are keep and torn that reach all that a crash may leave of n pending writes of at most size bytes.
func crashes(n, size int) [][2]int {
	var out [][2]int
	for keep := range n + 1 {
		for torn := range size + 1 {
			out = append(out, [2]int{keep, torn})
		}
	}
	return out
}

func TestP34WhatIsSureStays(t *testing.T) {
	s := newStore(t, 99, "a=0123456789", "b=untouched", "c=")
	ok(t, s.Write("c", 0, []byte("synced")))
	ok(t, s.Write("a", 2, []byte("XYZ")))
	ok(t, s.Write("a", 4, []byte("VW")))
	ok(t, s.Write("a", 8, []byte("PQRS")))
	ok(t, s.Sync("c"))
	for _, c := range crashes(3, 4) {
		after := s.Clone()
		ok(t, after.Crash(c[0], c[1]))
		ok(t, after.Start())
		a, _ := after.Sure("a")
		if len(a) < 10 || string(a[:2])+string(a[6:8]) != "0167" {
			t.Errorf("Crash(%d, %d) leaves %q: a byte that no write covers", c[0], c[1], a)
		}
		for name, want := range map[string]string{"b": "untouched", "c": "synced"} {
			if got, e := after.Sure(name); string(got) != want || e != api.OK {
				t.Errorf("Crash(%d, %d) leaves %q of %q", c[0], c[1], got, want)
			}
		}
	}
}

func TestP35ABeginningOfWhatCame(t *testing.T) {
	type call struct {
		name string
		at   int
		b    string
	}
	calls := []call{{"a", 0, "12"}, {"b", 0, "3"}, {"a", 1, "456"}, {"b", 0, "789"}, {"a", 3, "xyz"}, {"a", 0, "!"}}
	all := newStore(t, 40, "a=aa", "b=")
	for _, c := range calls {
		ok(t, all.Write(c.name, c.at, []byte(c.b)))
	}
	for _, c := range crashes(len(calls), 3) {
		keep, torn := c[0], c[1]
		// As if the others had never come.
		want := newStore(t, 40, "a=aa", "b=")
		for i, w := range calls[:min(keep+1, len(calls))] {
			if i == keep {
				w.b = w.b[:torn%(len(w.b)+1)]
			}
			ok(t, want.Write(w.name, w.at, []byte(w.b)))
		}
		ok(t, want.Sync("a"))
		ok(t, want.Sync("b"))
		got := all.Clone()
		ok(t, got.Crash(keep, torn))
		ok(t, got.Start())
		if got, want := tell(t, got), tell(t, want); got != want {
			t.Errorf("Crash(%d, %d)\nis:   %s\nwant: %s", keep, torn, got, want)
		}
	}
}

func TestP36RefusedIsNothing(t *testing.T) {
	s := newStore(t, 12, "a=abcd", "b=xy")
	ok(t, s.Write("a", 3, []byte("123")))
	ok(t, s.Write("b", 0, []byte("z")))
	was := tell(t, s)
	for _, c := range []struct {
		what string
		e    api.Errno
		want api.Errno
	}{
		{"Create of a name that a file has", s.Create("a"), api.ErrName},
		{"Create of the empty name", s.Create(""), api.ErrName},
		{"Write to none", s.Write("c", 0, []byte("1")), api.ErrNone},
		{"Write to none at a wrong place, of too much", s.Write("", -1, make([]byte, 99)), api.ErrNone},
		{"Write behind the end", s.Write("a", 7, []byte("1")), api.ErrSpot},
		{"Write of too much behind the end", s.Write("a", 7, make([]byte, 99)), api.ErrSpot},
		{"Write of too much", s.Write("a", 6, make([]byte, 5)), api.ErrRoom},
		{"Write of too much, over what is there", s.Write("b", 1, make([]byte, 6)), api.ErrRoom},
		{"Cut of none", s.Cut("c", -1), api.ErrNone},
		{"Cut behind the end", s.Cut("a", 7), api.ErrSpot},
		{"Cut below 0", s.Cut("b", -1), api.ErrSpot},
		{"Sync of none", s.Sync("c"), api.ErrNone},
		{"Rename of none", s.Rename("c", "a"), api.ErrNone},
		{"Rename to the empty name", s.Rename("a", ""), api.ErrName},
		{"Remove of none", s.Remove("c"), api.ErrNone},
		{"Start", s.Start(), api.ErrArg},
	} {
		wantErr(t, c.what, c.e, c.want)
	}
	if got := tell(t, s); got != was {
		t.Errorf("is:  %s\nwas: %s", got, was)
	}
	// Just as much as there is room for, and no byte more.
	ok(t, s.Write("a", 6, []byte("4567")))
	wantErr(t, "Write of one byte more", s.Write("b", 2, []byte("!")), api.ErrRoom)
	if s.Left() != 0 {
		t.Errorf("left %d", s.Left())
	}
}

func TestP3StepByStep(t *testing.T) {
	r := rand.New(rand.NewSource(2))
	for range 3000 {
		b := make([]byte, 20+r.Intn(400))
		r.Read(b)
		checkSteps(t, b)
	}
}

func TestR3WhatIsHandedIn(t *testing.T) {
	memory := []byte("abcdefgh")
	s := newStore(t, 30, "f=")
	ok(t, s.Write("f", 0, memory[:4]))
	ok(t, s.Write("f", 2, memory[4:6]))
	ok(t, s.Cut("f", 3))
	ok(t, s.Write("f", 3, memory[6:7]))
	if string(memory) != "abcdefgh" {
		t.Errorf("written to: %q", memory)
	}
	clear(memory)
	wantTells(t, s, 1, 26, "f=abeg/abe")
	ok(t, s.Crash(1, 0))
	wantTells(t, s, 0, 26, "f=abeg/abeg")
}

// spoil writes to all of the memory of an answer.
func spoil(b []byte) {
	b = b[:cap(b)]
	for i := range b {
		b[i] = 0xee
	}
}

func TestR3WhatIsAnswered(t *testing.T) {
	s := newStore(t, 30, "f=abcdef", "g=ghi")
	ok(t, s.Write("f", 4, []byte("XYZ")))
	for _, ahead := range []func(){func() {}, func() { ok(t, s.Sync("f")) }, func() { ok(t, s.Cut("f", 5)) }} {
		ahead()
		was := tell(t, s)
		for _, name := range []string{"f", "g"} {
			size, _ := s.Size(name)
			whole, _ := s.Read(name, 0, size)
			piece, _ := s.Read(name, 1, 2)
			none, _ := s.Read(name, 1, 0)
			sure, _ := s.Sure(name)
			for _, b := range [][]byte{whole, piece, none, sure} {
				spoil(b)
				if got := tell(t, s); got != was {
					t.Fatalf("%q is:  %s\nwas: %s", name, got, was)
				}
			}
		}
	}
	got, _ := s.Read("g", 0, 3)
	sure, _ := s.Sure("g")
	ok(t, s.Write("g", 0, []byte("...")))
	ok(t, s.Sync("g"))
	if string(got) != "ghi" || string(sure) != "ghi" {
		t.Errorf("answers changed: %q, %q", got, sure)
	}
}

func TestR3NamesTellWhatWasThere(t *testing.T) {
	s := newStore(t, 9, "a=", "b=", "c=")
	want := []string{"a", "b", "c"}
	names := s.Names()
	ok(t, s.Remove("b"))
	ok(t, s.Create("aa"))
	ok(t, s.Rename("c", "d"))
	for range 2 {
		if got := slices.Collect(names); !slices.Equal(got, want) {
			t.Errorf("Names, asked for ahead: %q", got)
		}
	}
	for stop := range 4 {
		var got []string
		for name := range names {
			if len(got) == stop {
				break
			}
			got = append(got, name)
		}
		if !slices.Equal(got, want[:stop]) {
			t.Errorf("left behind %d: %q", stop, got)
		}
	}
	// Files may go, and come, while they are told.
	var got []string
	for name := range s.Names() {
		got = append(got, name)
		ok(t, s.Remove(name))
		ok(t, s.Create(name+"!"))
	}
	if !slices.Equal(got, []string{"a", "aa", "d"}) || !slices.Equal(slices.Collect(s.Names()), []string{"a!", "aa!", "d!"}) {
		t.Errorf("on the way: %q; then %q", got, slices.Collect(s.Names()))
	}
}

func TestR5AStoreThatNoCallMade(t *testing.T) {
	for _, s := range []*store.Store{nil, {}, new(store.Store)} {
		for range 2 {
			wantErr(t, "Create", s.Create("a"), api.ErrMade)
			wantErr(t, "Create of the empty name", s.Create(""), api.ErrMade)
			wantErr(t, "Write", s.Write("a", 0, []byte("1")), api.ErrMade)
			wantErr(t, "Write at a wrong place", s.Write("", -1, nil), api.ErrMade)
			wantErr(t, "Cut", s.Cut("a", 0), api.ErrMade)
			wantErr(t, "Sync", s.Sync("a"), api.ErrMade)
			wantErr(t, "Rename", s.Rename("a", "b"), api.ErrMade)
			wantErr(t, "Rename to the empty name", s.Rename("", ""), api.ErrMade)
			wantErr(t, "Remove", s.Remove("a"), api.ErrMade)
			if b, e := s.Read("a", 0, 0); b != nil || e != api.ErrMade {
				t.Errorf("Read = %v, %d", b, e)
			}
			if n, e := s.Size("a"); n != 0 || e != api.ErrMade {
				t.Errorf("Size = %d, %d", n, e)
			}
			if b, e := s.Sure("a"); b != nil || e != api.ErrMade {
				t.Errorf("Sure = %v, %d", b, e)
			}
			names := 0
			for range s.Names() {
				names++
			}
			if names != 0 || s.Pending() != 0 || s.Left() != 0 || s.Up() || s.Clone() != nil {
				t.Errorf("%d names, pending %d, left %d, up %t", names, s.Pending(), s.Left(), s.Up())
			}
			wantErr(t, "Crash", s.Crash(1, 1), api.ErrMade)
			wantErr(t, "Start", s.Start(), api.ErrMade)
		}
	}
}

// Were each of these calls to go through all that is pending, they would not end within the test's time.
func TestBoundManyPendingWrites(t *testing.T) {
	const many = 300000
	s := newStore(t, api.MaxRoom, "a=", "b=")
	for i := range many {
		ok(t, s.Write("a", i, []byte{byte(i)}))
		ok(t, s.Write("b", 0, []byte{byte(i), 1}))
		if b, e := s.Read("a", i, 1); e != api.OK || b[0] != byte(i) {
			t.Fatalf("Read(%d) = %v, %d", i, b, e)
		}
		if i%2 == 0 {
			ok(t, s.Sync("b"))
		}
	}
	if want := many + 1; s.Pending() != want {
		t.Errorf("pending %d", s.Pending())
	}
	if b, e := s.Sure("a"); len(b) != 0 || e != api.OK {
		t.Errorf("Sure: %d bytes, %d", len(b), e)
	}
	c := s.Clone()
	ok(t, c.Crash(many/2, 1))
	if c.Left() != api.MaxRoom-2-many/2-1 {
		t.Errorf("left %d", c.Left())
	}
	ok(t, s.Sync("a"))
	if b, e := s.Sure("a"); len(b) != many || e != api.OK || s.Pending() != 1 {
		t.Errorf("Sure: %d bytes, %d, pending %d", len(b), e, s.Pending())
	}
}

func TestBoundManyFiles(t *testing.T) {
	s := newStore(t, api.MaxRoom)
	for i := range api.MaxFiles {
		ok(t, s.Create(fmt.Sprint(i)))
	}
	for i := range 200000 {
		name := fmt.Sprint(i % api.MaxFiles)
		ok(t, s.Write(name, 0, []byte{byte(i)}))
		if s.Left() != api.MaxRoom-min(i+1, api.MaxFiles) || s.Pending() != i+1 {
			t.Fatalf("left %d, pending %d", s.Left(), s.Pending())
		}
	}
	ok(t, s.Crash(100000, 0))
	if s.Left() != api.MaxRoom-api.MaxFiles {
		t.Errorf("left %d", s.Left())
	}
}

// What is cut off, or taken back by a crash, takes no memory: else it would be 4 MiB in each of these files.
func TestBoundMemory(t *testing.T) {
	s := newStore(t, api.MaxRoom)
	full := make([]byte, api.MaxRoom)
	for i := range 60 {
		name := fmt.Sprint(i)
		ok(t, s.Create(name))
		ok(t, s.Write(name, 0, full))
		if i%2 == 0 {
			ok(t, s.Cut(name, 0))
		} else {
			ok(t, s.Crash(0, 0))
			ok(t, s.Start())
		}
	}
	var now runtime.MemStats
	runtime.GC()
	runtime.ReadMemStats(&now)
	if now.HeapAlloc > 10*api.MaxRoom {
		t.Errorf("%d bytes are held by a store of %d", now.HeapAlloc, api.MaxRoom-s.Left())
	}
	runtime.KeepAlive(s)
}

func FuzzStore(f *testing.F) {
	f.Add([]byte(nil))
	f.Add([]byte("\x3f\x00\x00\x02\x00\x00\x05abcde\x08\x00\x06\x00\x02\x03xyz\x0c\x00\x02\x0d"))
	f.Fuzz(func(t *testing.T, b []byte) {
		if len(b) < 2000 {
			checkSteps(t, b)
		}
	})
}
