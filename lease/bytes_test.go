package lease_test

import (
	"bytes"
	"slices"
	"testing"

	"pontoon/api"
	"pontoon/lease"
)

func wantBytes(t *testing.T, l api.Lease, want []byte, e api.Errno) {
	t.Helper()
	if got, f := lease.Bytes(l); f != e || !bytes.Equal(got, want) {
		t.Fatalf("Bytes(%+v) = %v, %d; want %v, %d", l, got, f, want, e)
	}
}

func wantParse(t *testing.T, b []byte, want api.Lease, e api.Errno) {
	t.Helper()
	if got, f := lease.Parse(b); f != e || got != want {
		t.Fatalf("Parse(%v) = %+v, %d; want %+v, %d", b, got, f, want, e)
	}
}

// wantUnread tells that Parse of b answers an error, and no lease.
func wantUnread(t *testing.T, b []byte, e api.Errno) {
	t.Helper()
	wantParse(t, b, api.Lease{}, e)
}

func TestP134Forms(t *testing.T) {
	for _, x := range []struct {
		l api.Lease
		b []byte
	}{
		{lease.New(), []byte{1, 1, 0, 0, 0, 0}},
		{at(lease.New(), 5), []byte{1, 1, 0, 10, 0, 0}},
		{held(0), []byte{0, 0, 14, 10, 42, 0}},
		{held(1), []byte{2, 2, 14, 10, 42, 0}},
		{solo(held(1)), []byte{2, 2, 14, 10, 42, 2}},
		{freed(held(1)), []byte{1, 2, 14, 10, 10, 0}},
		{solo(freed(held(0))), []byte{1, 0, 14, 10, 10, 2}},
		{but(held(1), func(l *api.Lease) { l.Epoch = 300 }), []byte{2, 2, 132, 88, 10, 42, 0}},
		{last(held(0)), []byte{0, 0, 160, 128, 128, 128, 128, 128, 128, 0, 10, 42, 0}},
	} {
		wantBytes(t, x.l, x.b, api.OK)
		wantParse(t, x.b, x.l, api.OK)
	}
}

func TestP134ThereAndBack(t *testing.T) {
	for _, l := range append(fine(), sound()...) {
		b, e := lease.Bytes(l)
		if e != api.OK || !bytes.Equal(b, formOf(l)) {
			t.Fatalf("Bytes(%+v) = %v, %d", l, b, e)
		}
		wantParse(t, b, l, api.OK)
	}
}

// TestP134RefusedLeases: Bytes has none of them, and Parse answers no lease of what would be their bytes.
func TestP134RefusedLeases(t *testing.T) {
	for _, l := range spoilt() {
		wantBytes(t, l, nil, api.ErrArg)
		if b, _ := lease.Bytes(l); b != nil {
			t.Errorf("Bytes(%+v) = %v; want nil", l, b)
		}
		wantUnread(t, formOf(l), api.ErrArg)
	}
}

// TestP134NumbersOfAnySize: the unpacker takes them all, so that it is Check that refuses them.
func TestP134NumbersOfAnySize(t *testing.T) {
	for _, n := range []int64{least, least + 1, -1 << 32, -3, -2, 1 << 32, 1<<32 + 1, api.MaxNum + 1, most - 1, most} {
		for place := range 5 {
			numbers := []int64{0, 0, 7, 5, 21, 0}
			numbers[place] = n
			want := api.ErrArg
			if place >= 2 && n >= 1<<32 && n <= api.MaxNum {
				want = api.OK
			}
			if _, e := lease.Parse(formOfNumbers(numbers...)); e != want {
				t.Errorf("Parse of %v: %d; want %d", numbers, e, want)
			}
		}
	}
}

func TestP134EndsTooSoon(t *testing.T) {
	wantUnread(t, nil, api.ErrShort)
	for _, l := range append(fine(), spoilt()...) {
		b := formOf(l)
		for size := range b {
			wantUnread(t, b[:size], api.ErrShort)
		}
	}
}

func TestP134BytesTooMany(t *testing.T) {
	for _, l := range append(fine(), spoilt()...) {
		for _, c := range []byte{0, 1, 2, 127, 128, 129, 255} {
			wantUnread(t, append(formOf(l), c), api.ErrExtra)
		}
		wantUnread(t, append(formOf(l), formOf(l)...), api.ErrExtra)
	}
}

// TestP134NotTheOneForm: a first digit of 0, or a number that 64 bits have no room for, at each place.
func TestP134NotTheOneForm(t *testing.T) {
	great := append([]byte{130}, bytes.Repeat([]byte{128}, 8)...)
	great = append(great, 0)
	for _, numbers := range [][]int64{{0, 0, 7, 5, 21, 1}, {-1, -1, 0, 0, 0, 0}, {5, 5, 0, -1, 9, 1}} {
		for place := range numbers {
			ahead, one, behind := formOfNumbers(numbers[:place]...), formOfNumbers(numbers[place]), formOfNumbers(numbers[place+1:]...)
			wantUnread(t, slices.Concat(ahead, []byte{128}, one, behind), api.ErrShape)
			wantUnread(t, slices.Concat(ahead, great, behind), api.ErrShape)
		}
	}
}

func TestP134NoTruth(t *testing.T) {
	for _, l := range append(fine(), spoilt()...) {
		b := formOf(l)
		for _, n := range []int64{least, -2, -1, 2, 3, 256, 257, 1<<32 + 1, most} {
			wantUnread(t, append(b[:len(b)-1:len(b)-1], formOfNumbers(n)...), api.ErrShape)
		}
	}
}

// TestP134WhichErrorFirst: the unpacker's first error, from the left; bytes that are left; Check's error.
func TestP134WhichErrorFirst(t *testing.T) {
	for _, x := range []struct {
		name string
		b    []byte
		e    api.Errno
	}{
		{"a region too great, cut", []byte{4, 4, 14, 10, 42}, api.ErrShort},
		{"a region too great, a truth that is none", []byte{4, 4, 14, 10, 42, 4}, api.ErrShape},
		{"a region too great, a byte too many", []byte{4, 4, 14, 10, 42, 0, 0}, api.ErrExtra},
		{"a truth that is none, a byte too many", []byte{0, 0, 14, 10, 42, 4, 0}, api.ErrShape},
		{"not the one form, cut", []byte{128, 0}, api.ErrShape},
		{"cut within a number", []byte{0, 0, 129}, api.ErrShort},
		{"not the one form behind a region too great", []byte{4, 4, 128, 14, 10, 42, 0}, api.ErrShape},
		{"no fault but Check's", []byte{4, 4, 14, 10, 42, 0}, api.ErrArg},
	} {
		if l, e := lease.Parse(x.b); l != (api.Lease{}) || e != x.e {
			t.Errorf("%s: Parse(%v) = %+v, %d; want the error %d", x.name, x.b, l, e, x.e)
		}
	}
}

// TestP134AllShortBytes holds Parse of all lists of up to six bytes, of some that tell much, against the model.
func TestP134AllShortBytes(t *testing.T) {
	values := []byte{0, 1, 2, 3, 4, 14, 128, 129}
	var all func(b []byte)
	all = func(b []byte) {
		checkParse(t, b)
		if len(b) == 6 {
			return
		}
		for _, c := range values {
			all(append(b, c))
		}
	}
	all(make([]byte, 0, 6))
}

// TestP134SpoiltBytes turns each byte of a form into each other one.
func TestP134SpoiltBytes(t *testing.T) {
	for _, l := range fine() {
		b := formOf(l)
		for place := range b {
			for c := range 256 {
				x := slices.Clone(b)
				x[place] = byte(c)
				checkParse(t, x)
			}
		}
	}
}

// TestR3BytesAreNobodysElse: what Parse is handed stays as it is, and what Bytes answers is new memory.
func TestR3BytesAreNobodysElse(t *testing.T) {
	whole := append(formOf(held(1)), 77, 77)
	before := slices.Clone(whole)
	for size := range whole {
		lease.Parse(whole[:size])
	}
	if !bytes.Equal(whole, before) {
		t.Errorf("Parse wrote to its bytes: %v", whole)
	}
	first, _ := lease.Bytes(held(1))
	for i := range first[:cap(first)] {
		first[:cap(first)][i] = 99
	}
	wantBytes(t, held(1), formOf(held(1)), api.OK)
}

func TestR4NoBytes(t *testing.T) {
	wantUnread(t, nil, api.ErrShort)
	wantUnread(t, []byte{}, api.ErrShort)
	wantUnread(t, make([]byte, 0, 10), api.ErrShort)
}

// TestBoundManyBytes: what is far too long is told as such, and does not take long.
func TestBoundManyBytes(t *testing.T) {
	wantLong := func(b []byte, e api.Errno) {
		t.Helper()
		if l, f := lease.Parse(b); l != (api.Lease{}) || f != e {
			t.Errorf("Parse of %d bytes: %+v, %d; want the error %d", len(b), l, f, e)
		}
	}
	const size = 1 << 24
	wantLong(make([]byte, size), api.ErrExtra)
	wantLong(bytes.Repeat([]byte{255}, size), api.ErrShape)
	wantLong(append(formOf(held(0)), make([]byte, size)...), api.ErrExtra)
}
