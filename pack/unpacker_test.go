package pack_test

import (
	"bytes"
	"math"
	"slices"
	"testing"

	"pontoon/api"
	"pontoon/pack"
)

const (
	least = math.MinInt64
	most  = math.MaxInt64
)

// spoilt tells what is wrong with an unpacker that should have the error e, and read no more.
func spoilt(t *testing.T, name string, u *pack.Unpacker, e api.Errno) {
	t.Helper()
	if u.Err() != e || u.Close() != e || u.Rest() != 0 {
		t.Errorf("%s: %d %d %d, want error %d", name, u.Err(), u.Close(), u.Rest(), e)
	}
	if n, x, f := u.Int(least, most), u.Str(most), u.Flag(); n != 0 || x != nil || f {
		t.Errorf("%s: it reads on: %d %v %v", name, n, x, f)
	}
	u.Spoil(api.ErrArg)
	u.Spoil(api.OK)
	if u.Err() != e || u.Close() != e || u.Rest() != 0 {
		t.Errorf("%s: its error is not the first one: %d %d", name, u.Err(), u.Close())
	}
}

func TestP13IntBounds(t *testing.T) {
	for _, x := range []struct {
		name        string
		n           int64
		least, most int64
		e           api.Errno
	}{
		{"within", 5, 0, 10, api.OK},
		{"the least one", 5, 5, 10, api.OK},
		{"the most one", 5, 0, 5, api.OK},
		{"the only one", 5, 5, 5, api.OK},
		{"below", 4, 5, 10, api.ErrShape},
		{"above", 11, 5, 10, api.ErrShape},
		{"below 0", -1, 0, 10, api.ErrShape},
		{"turned round", 5, 10, 0, api.ErrShape},
		{"turned round by one", 5, 6, 5, api.ErrShape},
		{"any, the least", least, least, most, api.OK},
		{"any, the greatest", most, least, most, api.OK},
		{"one above the least", least, least + 1, most, api.ErrShape},
		{"one below the greatest", most, least, most - 1, api.ErrShape},
	} {
		u := pack.Open(pack.Int(nil, x.n, 1))
		got := u.Int(x.least, x.most)
		if x.e != api.OK {
			if got != 0 {
				t.Errorf("%s: %d with an error", x.name, got)
			}
			spoilt(t, x.name, u, x.e)
			continue
		}
		if got != x.n || u.Err() != api.OK || u.Rest() != 1 {
			t.Errorf("%s: %d %d %d", x.name, got, u.Err(), u.Rest())
		}
	}
}

func TestP13FirstsErrorComesAhead(t *testing.T) {
	for _, x := range []struct {
		b []byte
		e api.Errno
	}{
		{nil, api.ErrShort},
		{[]byte{129}, api.ErrShort},
		{[]byte{128, 1}, api.ErrShape},
		{[]byte{130, 128, 128, 128, 128, 128, 128, 128, 128, 0}, api.ErrShape},
	} {
		calls := map[string]func(u *pack.Unpacker){
			"Int":              func(u *pack.Unpacker) { u.Int(least, most) },
			"Int turned round": func(u *pack.Unpacker) { u.Int(1, 0) },
			"Str":              func(u *pack.Unpacker) { u.Str(most) },
			"Str below 0":      func(u *pack.Unpacker) { u.Str(-1) },
			"Flag":             func(u *pack.Unpacker) { u.Flag() },
		}
		for name, call := range calls {
			u := pack.Open(x.b)
			call(u)
			spoilt(t, name, u, x.e)
		}
	}
}

func TestP13Str(t *testing.T) {
	for _, x := range []struct {
		name string
		b    []byte
		most int
		want []byte
		rest int
		e    api.Errno
	}{
		{"the example", []byte{4, 7, 8}, 2, []byte{7, 8}, 0, api.OK},
		{"bytes behind", []byte{4, 7, 8, 9}, 9, []byte{7, 8}, 1, api.OK},
		{"any length", []byte{4, 7, 8}, math.MaxInt, []byte{7, 8}, 0, api.OK},
		{"longer than most", []byte{4, 7, 8}, 1, nil, 0, api.ErrShape},
		{"longer than most, and cut", []byte{4, 7}, 1, nil, 0, api.ErrShape},
		{"cut", []byte{4, 7}, 2, nil, 0, api.ErrShort},
		{"only a length", []byte{4}, 2, nil, 0, api.ErrShort},
		{"a length below 0", []byte{1, 7}, 2, nil, 0, api.ErrShape},
		{"none", []byte{0, 7}, 2, nil, 1, api.OK},
		{"none of none", []byte{0, 7}, 0, nil, 1, api.OK},
		{"none of most below 0", []byte{0, 7}, -1, nil, 1, api.OK},
		{"none of the least most", []byte{0, 7}, math.MinInt, nil, 1, api.OK},
		{"one of most 0", []byte{2, 7}, 0, nil, 0, api.ErrShape},
		{"one of most below 0", []byte{2, 7}, -1, nil, 0, api.ErrShape},
		{"the greatest length", pack.Int(nil, most), math.MaxInt, nil, 0, api.ErrShort},
	} {
		u := pack.Open(x.b)
		got := u.Str(x.most)
		if x.e != api.OK {
			if got != nil {
				t.Errorf("%s: %v with an error", x.name, got)
			}
			spoilt(t, x.name, u, x.e)
			continue
		}
		if !bytes.Equal(got, x.want) || u.Rest() != x.rest || u.Err() != api.OK {
			t.Errorf("%s: %v %d %d", x.name, got, u.Rest(), u.Err())
		}
	}
}

func TestP13Flag(t *testing.T) {
	u := pack.Open(pack.Int(nil, 1, 0, 1))
	if !u.Flag() || u.Flag() || !u.Flag() || u.Close() != api.OK {
		t.Error("1 0 1:", u.Close())
	}
	for _, n := range []int64{-1, 2, least, most} {
		u := pack.Open(pack.Int(nil, n, 1))
		if u.Flag() {
			t.Errorf("%d is a flag", n)
		}
		spoilt(t, "a flag that is none", u, api.ErrShape)
	}
}

func TestP14Spoil(t *testing.T) {
	u := pack.Open([]byte{2, 2})
	u.Spoil(api.OK)
	if u.Err() != api.OK || u.Rest() != 2 {
		t.Error("Spoil of OK:", u.Err(), u.Rest())
	}
	u.Spoil(api.ErrTwice)
	spoilt(t, "Spoil of ErrTwice", u, api.ErrTwice)
	for _, e := range []api.Errno{-1, api.ErrMade, api.ErrExtra, math.MaxInt} {
		u := pack.Open([]byte{2})
		u.Spoil(e)
		spoilt(t, "Spoil of some error", u, e)
	}
	v := pack.Open([]byte{128})
	v.Int(least, most)
	v.Spoil(api.ErrTwice)
	spoilt(t, "Spoil behind an error", v, api.ErrShape)
}

func TestP14RestAndClose(t *testing.T) {
	u := pack.Open([]byte{132, 88, 4, 7, 8, 2})
	for _, x := range []struct {
		read func()
		rest int
	}{
		{func() {}, 6},
		{func() { u.Int(300, 300) }, 4},
		{func() { u.Str(2) }, 1},
		{func() { u.Flag() }, 0},
	} {
		x.read()
		want := api.ErrExtra
		if x.rest == 0 {
			want = api.OK
		}
		if u.Rest() != x.rest || u.Close() != want || u.Err() != api.OK {
			t.Errorf("%d are left, want %d; %d %d", u.Rest(), x.rest, u.Close(), u.Err())
		}
	}
}

// TestR2CloseChangesNothing: bytes that are left are told, and can still be read.
func TestR2CloseChangesNothing(t *testing.T) {
	u := pack.Open([]byte{6})
	if u.Close() != api.ErrExtra || u.Close() != api.ErrExtra {
		t.Error("Close:", u.Close())
	}
	if u.Err() != api.OK || u.Int(0, 3) != 3 || u.Close() != api.OK {
		t.Error("it does not read on:", u.Err())
	}
}

func TestR5UnpackerThatNoCallMade(t *testing.T) {
	for name, u := range map[string]*pack.Unpacker{"nil": nil, "zero": {}} {
		spoilt(t, name, u, api.ErrMade)
		if u.Int(1, 0) != 0 || u.Str(-1) != nil || u.Flag() {
			t.Errorf("%s: it reads", name)
		}
	}
}

// TestR3UnpackerHasItsOwnBytes: neither what was handed in nor what was answered shares memory with it.
func TestR3UnpackerHasItsOwnBytes(t *testing.T) {
	b := []byte{4, 7, 8, 4, 5, 6}
	u := pack.Open(b)
	clear(b)
	first := u.Str(2)
	if !bytes.Equal(first, []byte{7, 8}) {
		t.Error("it sees what its argument became:", first)
	}
	_ = append(first, 99, 99, 99)
	first[0] = 99
	if second := u.Str(2); !bytes.Equal(second, []byte{5, 6}) {
		t.Error("it sees what its answer became:", second)
	}
	if !bytes.Equal(b, make([]byte, 6)) {
		t.Error("it wrote to its argument:", b)
	}
}

func TestP15NumbersThereAndBack(t *testing.T) {
	u := pack.Open(pack.Int(nil, edges()...))
	for _, n := range edges() {
		if got := u.Int(least, most); got != n {
			t.Fatalf("%d came back as %d", n, got)
		}
	}
	if u.Close() != api.OK {
		t.Error(u.Close())
	}
}

func TestP15AllKindsThereAndBack(t *testing.T) {
	var b []byte
	texts := [][]byte{nil, {0}, {128}, bytes.Repeat([]byte{255}, 63), bytes.Repeat([]byte{1}, 64), bytes.Repeat([]byte{2}, 8192)}
	for i, x := range texts {
		b = pack.Int(pack.Str(b, x), int64(i%2), int64(-i))
	}
	u := pack.Open(b)
	for i, x := range texts {
		if got := u.Str(8192); !bytes.Equal(got, x) {
			t.Fatalf("string %d came back as %v", i, got)
		}
		if f, n := u.Flag(), u.Int(least, most); f != (i%2 == 1) || n != int64(-i) {
			t.Fatalf("behind string %d: %v %d", i, f, n)
		}
	}
	if u.Close() != api.OK {
		t.Error(u.Close())
	}
}

// TestP16StringsHaveOneForm: what Str takes is packed as the bytes that it was.
func TestP16StringsHaveOneForm(t *testing.T) {
	for i := range 256 {
		for j := range 256 {
			b := append([]byte{byte(i), byte(j)}, bytes.Repeat([]byte{3}, 200)...)
			u := pack.Open(b)
			x := u.Str(200)
			if u.Err() != api.OK {
				continue
			}
			if used := len(b) - u.Rest(); !bytes.Equal(pack.Str(nil, x), b[:used]) {
				t.Fatalf("%v is not packed again as it was", b[:used])
			}
		}
	}
}

// TestBoundOfLongLists: time that grows with the square of the length would not end here.
func TestBoundOfLongLists(t *testing.T) {
	const many = 1 << 20
	l := make([]int64, many)
	for i := range l {
		l[i] = int64(i) - many/2
	}
	b := pack.Int(nil, l...)
	u := pack.Open(b)
	for _, n := range l {
		if got := u.Int(least, most); got != n {
			t.Fatal(got, n)
		}
	}
	var back []int64
	for n := range pack.Ints(b) {
		back = append(back, n)
	}
	if u.Close() != api.OK || !slices.Equal(back, l) {
		t.Error("a long list does not come back")
	}
}

func FuzzUnpacker(f *testing.F) {
	f.Add([]byte{132, 88, 4, 7, 8, 2}, int64(0), int64(300), 2)
	f.Add([]byte{128}, int64(1), int64(0), -1)
	f.Fuzz(func(t *testing.T, b []byte, low, high int64, long int) {
		u := pack.Open(b)
		n, x := u.Int(low, high), u.Str(long)
		flag := u.Flag()
		if e := u.Err(); e != api.OK {
			spoilt(t, "fuzz", u, e)
			return
		}
		again := pack.Str(pack.Int(nil, n), x)
		if flag {
			again = pack.Int(again, 1)
		} else {
			again = pack.Int(again, 0)
		}
		if n < low || n > high || len(x) > max(long, 0) || !bytes.Equal(again, b[:len(b)-u.Rest()]) {
			t.Fatalf("%v: %d %v %v", b, n, x, flag)
		}
	})
}
