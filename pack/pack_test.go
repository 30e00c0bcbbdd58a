package pack_test

import (
	"bytes"
	"math"
	"math/big"
	"slices"
	"testing"

	"pontoon/api"
	"pontoon/pack"
)

// edges are numbers at which a form grows, turns its sign, or ends.
func edges() []int64 {
	l := []int64{0, 1, -1, 2, -2, 300, -300, math.MaxInt64, math.MinInt64, math.MaxInt64 - 1, math.MinInt64 + 1, api.MaxNum, -api.MaxNum}
	for shift := 1; shift < 63; shift++ {
		p := int64(1) << shift
		l = append(l, p-1, p, p+1, -p-1, -p, -p+1)
	}
	return l
}

// formOf writes a number's form as the chapter tells it, by division of whole numbers of any size.
func formOf(n int64) []byte {
	v := new(big.Int).Lsh(big.NewInt(n), 1)
	if n < 0 {
		v.Neg(v).Sub(v, big.NewInt(1))
	}
	return digitsOf(v)
}

func digitsOf(v *big.Int) []byte {
	base, digit := big.NewInt(128), new(big.Int)
	v = new(big.Int).Set(v)
	var out []byte
	for {
		v.DivMod(v, base, digit)
		c := byte(digit.Int64())
		if len(out) > 0 {
			c += 128
		}
		out = append([]byte{c}, out...)
		if v.Sign() == 0 {
			return out
		}
	}
}

// firstOf reads byte by byte as the chapter tells it.
func firstOf(b []byte) (int64, int, api.Errno) {
	limit, so := new(big.Int).Lsh(big.NewInt(1), 64), new(big.Int)
	for i := 0; ; i++ {
		if i == len(b) {
			return 0, 0, api.ErrShort
		}
		so.Mul(so, big.NewInt(128)).Add(so, big.NewInt(int64(b[i]%128)))
		if i == 0 && b[i] == 128 || so.Cmp(limit) >= 0 {
			return 0, 0, api.ErrShape
		}
		if b[i] < 128 {
			odd := so.Bit(0) == 1
			half := so.Rsh(so, 1)
			if odd {
				half.Neg(half).Sub(half, big.NewInt(1))
			}
			return half.Int64(), i + 1, api.OK
		}
	}
}

func TestP11Examples(t *testing.T) {
	for _, x := range []struct {
		n    int64
		form []byte
	}{
		{0, []byte{0}},
		{-1, []byte{1}},
		{1, []byte{2}},
		{63, []byte{126}},
		{-64, []byte{127}},
		{64, []byte{129, 0}},
		{-65, []byte{129, 1}},
		{300, []byte{132, 88}},
		{math.MaxInt64, []byte{129, 255, 255, 255, 255, 255, 255, 255, 255, 126}},
		{math.MinInt64, []byte{129, 255, 255, 255, 255, 255, 255, 255, 255, 127}},
	} {
		if got := pack.Int(nil, x.n); !bytes.Equal(got, x.form) {
			t.Errorf("Int of %d: %v, want %v", x.n, got, x.form)
		}
		if got := pack.Size(x.n); got != len(x.form) {
			t.Errorf("Size of %d: %d, want %d", x.n, got, len(x.form))
		}
	}
	if got := pack.Str(nil, []byte{7, 8}); !bytes.Equal(got, []byte{4, 7, 8}) {
		t.Errorf("Str of 7 8: %v", got)
	}
}

func TestP11FormsAtEdges(t *testing.T) {
	for _, n := range edges() {
		want := formOf(n)
		if got := pack.Int(nil, n); !bytes.Equal(got, want) {
			t.Errorf("Int of %d: %v, want %v", n, got, want)
		}
		if got := pack.Size(n); got != len(want) {
			t.Errorf("Size of %d: %d, want %d", n, got, len(want))
		}
	}
}

func TestP11NumbersStandBehindEachOther(t *testing.T) {
	b := []byte{9, 128}
	want := slices.Clone(b)
	for _, n := range edges() {
		want = append(want, formOf(n)...)
	}
	if got := pack.Int(b, edges()...); !bytes.Equal(got, want) {
		t.Errorf("got %v, want %v", got, want)
	}
	if got := pack.Int(b); !bytes.Equal(got, b) {
		t.Errorf("Int of no numbers: %v, want %v", got, b)
	}
}

func TestP11StrForms(t *testing.T) {
	for _, size := range []int{0, 1, 63, 64, 8191, 8192} {
		x := bytes.Repeat([]byte{200}, size)
		want := append(append([]byte{9}, formOf(int64(size))...), x...)
		if got := pack.Str([]byte{9}, x); !bytes.Equal(got, want) {
			t.Errorf("Str of %d bytes: %v", size, got)
		}
	}
}

// TestR3PackingLeavesItsArguments: b, what stands behind it, and x stay as they are, and an answer is new memory.
func TestR3PackingLeavesItsArguments(t *testing.T) {
	calls := map[string]func(b []byte) []byte{
		"Int":         func(b []byte) []byte { return pack.Int(b, 300, -1) },
		"Int of none": func(b []byte) []byte { return pack.Int(b) },
		"Str":         func(b []byte) []byte { return pack.Str(b, []byte{7, 8}) },
		"Str of none": func(b []byte) []byte { return pack.Str(b, nil) },
	}
	for name, call := range calls {
		whole := []byte{1, 2, 3, 4, 5, 6, 7, 8, 9, 10}
		before := slices.Clone(whole)
		got := call(whole[:3])
		for i := range got {
			got[i] = 99
		}
		if !bytes.Equal(whole, before) {
			t.Errorf("%s wrote to its argument: %v", name, whole)
		}
		whole[0], whole[3] = 50, 51
		if got[0] != 99 || len(got) > 3 && got[3] != 99 {
			t.Errorf("%s shares memory with its argument", name)
		}
	}
	x := []byte{7, 8, 9}
	got := pack.Str(nil, x[:2])
	got[1], got[2] = 99, 99
	if !bytes.Equal(x, []byte{7, 8, 9}) {
		t.Errorf("Str shares memory with x: %v", x)
	}
	l := []int64{3, 4}
	pack.Int(nil, l...)
	if !slices.Equal(l, []int64{3, 4}) {
		t.Errorf("Int wrote to its numbers: %v", l)
	}
}

func TestR4EmptyIsNil(t *testing.T) {
	if a, b := pack.Int(nil, 5), pack.Int([]byte{}, 5); !bytes.Equal(a, b) {
		t.Error("Int:", a, b)
	}
	if a, b := pack.Int(nil), pack.Int([]byte{}, []int64{}...); len(a) != 0 || len(b) != 0 {
		t.Error("Int of none:", a, b)
	}
	if a, b := pack.Str(nil, nil), pack.Str([]byte{}, []byte{}); !bytes.Equal(a, []byte{0}) || !bytes.Equal(b, a) {
		t.Error("Str:", a, b)
	}
	for _, b := range [][]byte{nil, {}} {
		if n, k, e := pack.First(b); n != 0 || k != 0 || e != api.ErrShort {
			t.Error("First:", n, k, e)
		}
		for n, k := range pack.Ints(b) {
			t.Error("Ints:", n, k)
		}
		u := pack.Open(b)
		if u.Rest() != 0 || u.Err() != api.OK || u.Close() != api.OK {
			t.Error("Open:", u.Rest(), u.Err(), u.Close())
		}
	}
}

func TestP12FirstAtEdges(t *testing.T) {
	for _, n := range edges() {
		b := formOf(n)
		if got, k, e := pack.First(append(b, 255, 0)); got != n || k != len(b) || e != api.OK {
			t.Errorf("First of %v: %d %d %d, want %d", b, got, k, e, n)
		}
		for cut := range b {
			if got, k, e := pack.First(b[:cut]); got != 0 || k != 0 || e != api.ErrShort {
				t.Errorf("First of %v cut: %d %d %d", b[:cut], got, k, e)
			}
		}
	}
}

func TestP12FirstFaults(t *testing.T) {
	// head is 9 bytes: with a first digit of 2 the number so far is 2^57, which leaves no room for a tenth digit.
	head := func(first byte, tail ...byte) []byte {
		return append(append([]byte{first}, bytes.Repeat([]byte{128}, 8)...), tail...)
	}
	ones := bytes.Repeat([]byte{255}, 9)
	for _, x := range []struct {
		name string
		b    []byte
		e    api.Errno
	}{
		{"no byte", nil, api.ErrShort},
		{"129 alone", []byte{129}, api.ErrShort},
		{"255 alone", []byte{255}, api.ErrShort},
		{"128 alone", []byte{128}, api.ErrShape},
		{"128 1", []byte{128, 1}, api.ErrShape},
		{"128 0", []byte{128, 0}, api.ErrShape},
		{"128 and many", append([]byte{128}, ones...), api.ErrShape},
		{"2^57 and no next byte", head(130), api.ErrShort},
		{"2^64", head(130, 0), api.ErrShape},
		{"2^64 going on", head(130, 128), api.ErrShape},
		{"2^64 + 127", head(130, 127), api.ErrShape},
		{"nine 255", ones, api.ErrShort},
		{"nine 255 and 0", append(slices.Clone(ones), 0), api.ErrShape},
		{"ten 255", append(slices.Clone(ones), 255), api.ErrShape},
		{"2^63 going on", head(129, 128), api.ErrShort},
		{"eleven digits", head(129, 128, 0), api.ErrShape},
		{"2^64 - 1 going on", []byte{129, 255, 255, 255, 255, 255, 255, 255, 255, 255}, api.ErrShort},
		{"2^64 - 1 and a digit", []byte{129, 255, 255, 255, 255, 255, 255, 255, 255, 255, 0}, api.ErrShape},
	} {
		before := slices.Clone(x.b)
		if n, k, e := pack.First(x.b); n != 0 || k != 0 || e != x.e {
			t.Errorf("%s: %d %d %d, want error %d", x.name, n, k, e, x.e)
		}
		if !bytes.Equal(x.b, before) {
			t.Errorf("%s: First wrote to it", x.name)
		}
	}
}

func TestP12FirstOfAllShortLists(t *testing.T) {
	same := func(b []byte) {
		n, k, e := pack.First(b)
		wn, wk, we := firstOf(b)
		if n != wn || k != wk || e != we {
			t.Fatalf("First of %v: %d %d %d, want %d %d %d", b, n, k, e, wn, wk, we)
		}
	}
	for i := range 256 {
		same([]byte{byte(i)})
		for j := range 256 {
			same([]byte{byte(i), byte(j)})
			same([]byte{byte(i), byte(j), 5})
			same([]byte{byte(i), 255, 255, 255, 255, 255, 255, 255, 255, byte(j)})
			same([]byte{byte(i), 255, 255, 255, 255, 255, 255, 255, 255, byte(j), 1})
		}
	}
}

type step struct {
	n     int64
	place int
}

func walk(b []byte) []step {
	var l []step
	for n, place := range pack.Ints(b) {
		l = append(l, step{n, place})
	}
	return l
}

func TestP12Ints(t *testing.T) {
	three := []step{{1, 1}, {-1, 2}, {300, 4}}
	for _, x := range []struct {
		name string
		b    []byte
		want []step
	}{
		{"to the end", []byte{2, 1, 132, 88}, three},
		{"cut short behind", []byte{2, 1, 132, 88, 129}, three},
		{"128 behind", []byte{2, 1, 132, 88, 128, 2, 2}, three},
		{"too great behind", []byte{2, 1, 132, 88, 255, 255, 255, 255, 255, 255, 255, 255, 255, 0, 2}, three},
		{"a fault at once", []byte{128, 2}, nil},
	} {
		if got := walk(x.b); !slices.Equal(got, x.want) {
			t.Errorf("%s: %v, want %v", x.name, got, x.want)
		}
	}
	var want []step
	place := 0
	for _, n := range edges() {
		place += len(formOf(n))
		want = append(want, step{n, place})
	}
	if got := walk(pack.Int(nil, edges()...)); !slices.Equal(got, want) {
		t.Errorf("edges: %v, want %v", got, want)
	}
}

// TestR3IntsTellsWhatWasThere: later writes are not seen; a loop may stop, and be done again.
func TestR3IntsTellsWhatWasThere(t *testing.T) {
	b := []byte{2, 4, 6}
	seq := pack.Ints(b)
	b[0], b[1], b[2] = 128, 128, 128
	for n, place := range seq {
		if n != 1 || place != 1 {
			t.Error(n, place)
		}
		break
	}
	for range 2 {
		var got []step
		for n, place := range seq {
			got = append(got, step{n, place})
		}
		if want := []step{{1, 1}, {2, 2}, {3, 3}}; !slices.Equal(got, want) {
			t.Errorf("%v, want %v", got, want)
		}
	}
	if !bytes.Equal(b, []byte{128, 128, 128}) {
		t.Error("Ints wrote to its argument:", b)
	}
}

func TestP16NoFormBeginsAnother(t *testing.T) {
	l := edges()
	for _, a := range l {
		for _, b := range l {
			if a != b && bytes.HasPrefix(pack.Int(nil, b), pack.Int(nil, a)) {
				t.Errorf("the form of %d begins that of %d", a, b)
			}
		}
	}
}

// TestP16OneForm: whatever First takes is packed as the bytes that it was.
func TestP16OneForm(t *testing.T) {
	same := func(b []byte) {
		n, k, e := pack.First(b)
		if e == api.OK && !bytes.Equal(pack.Int(nil, n), b[:k]) {
			t.Fatalf("%v is read as %d, which is packed as %v", b, n, pack.Int(nil, n))
		}
	}
	for i := range 256 {
		for j := range 256 {
			for _, k := range []byte{0, 1, 127, 128, 129, 255} {
				same([]byte{byte(i), byte(j), k})
				same([]byte{byte(i), byte(j), 128, 128, 128, 128, 128, 128, 128, k, 0})
			}
		}
	}
}

func TestP17FormsRise(t *testing.T) {
	var l []int64
	for _, n := range edges() {
		if n >= 0 {
			l = append(l, n)
		}
	}
	for n := range int64(9000) {
		l = append(l, n)
	}
	slices.Sort(l)
	l = slices.Compact(l)
	for i := 1; i < len(l); i++ {
		a, b := l[i-1], l[i]
		if pack.Size(a) > pack.Size(b) {
			t.Errorf("%d is longer than %d", a, b)
		}
		if pack.Size(a) == pack.Size(b) && bytes.Compare(pack.Int(nil, a), pack.Int(nil, b)) >= 0 {
			t.Errorf("%d does not stand ahead of %d", a, b)
		}
	}
}

func FuzzFirst(f *testing.F) {
	for _, n := range edges() {
		f.Add(formOf(n))
	}
	f.Add([]byte{128, 1})
	f.Add([]byte{130, 128, 128, 128, 128, 128, 128, 128, 128, 0})
	f.Fuzz(func(t *testing.T, b []byte) {
		n, k, e := pack.First(b)
		wn, wk, we := firstOf(b)
		if n != wn || k != wk || e != we {
			t.Fatalf("First of %v: %d %d %d, want %d %d %d", b, n, k, e, wn, wk, we)
		}
		if e == api.OK && !bytes.Equal(pack.Int(nil, n), b[:k]) {
			t.Fatalf("%v is not packed again as it was", b)
		}
	})
}
