package snap_test

import (
	"bytes"
	"math/rand"
	"slices"
	"testing"

	"pontoon/api"
	"pontoon/frame"
	"pontoon/snap"
)

// scattered is so many bytes that look like chance.
func scattered(n int) []byte {
	b := make([]byte, n)
	rand.New(rand.NewSource(int64(n))).Read(b)
	return b
}

func piece(size int, sum uint32) api.Piece {
	return api.Piece{Len: size, Sum: sum}
}

func wantSplit(t *testing.T, b []byte, n int, want [][]byte) {
	t.Helper()
	l, e := snap.Split(b, n)
	if !slices.EqualFunc(l, want, bytes.Equal) || e != api.OK {
		t.Errorf("Split of %d bytes by %d: %d pieces, %d; want %d", len(b), n, len(l), e, len(want))
	}
}

func wantSplitRefused(t *testing.T, want api.Errno, b []byte, n int) {
	t.Helper()
	if l, e := snap.Split(b, n); l != nil || e != want {
		t.Errorf("Split of %d bytes by %d: %d pieces, %d; want %d", len(b), n, len(l), e, want)
	}
}

func wantJoin(t *testing.T, known []api.Piece, l [][]byte, want []byte) {
	t.Helper()
	if b, e := snap.Join(known, l...); !bytes.Equal(b, want) || e != api.OK {
		t.Errorf("Join of %d pieces = %d bytes, %d; want %d", len(l), len(b), e, len(want))
	}
}

func wantJoinRefused(t *testing.T, want api.Errno, known []api.Piece, l ...[]byte) {
	t.Helper()
	if b, e := snap.Join(known, l...); b != nil || e != want {
		t.Errorf("Join of %d pieces, of which %d are known, = %v, %d; want %d", len(l), len(known), some(b), e, want)
	}
}

// splitBy is what P12.2 tells of Split, byte by byte.
func splitBy(b []byte, n int) [][]byte {
	var l [][]byte
	for i, c := range b {
		if i%n == 0 {
			l = append(l, nil)
		}
		l[len(l)-1] = append(l[len(l)-1], c)
	}
	return l
}

func TestP122Split(t *testing.T) {
	b := []byte{1, 2, 3, 4, 5, 6}
	wantSplit(t, b, 1, [][]byte{{1}, {2}, {3}, {4}, {5}, {6}})
	wantSplit(t, b, 2, [][]byte{{1, 2}, {3, 4}, {5, 6}})
	wantSplit(t, b, 3, [][]byte{{1, 2, 3}, {4, 5, 6}})
	wantSplit(t, b, 4, [][]byte{{1, 2, 3, 4}, {5, 6}})
	wantSplit(t, b, 5, [][]byte{{1, 2, 3, 4, 5}, {6}})
	wantSplit(t, b, 6, [][]byte{b})
	wantSplit(t, b, 7, [][]byte{b})
	wantSplit(t, b, api.MaxPiece, [][]byte{b})
	for _, size := range []int{1, 2, 255, 256, 257, 4095, 4096, 4097, 8191, 8192, 8193, api.MaxSnap - 1, api.MaxSnap} {
		b := scattered(size)
		for _, n := range []int{1, 2, 3, 255, 256, 257, 1000, api.MaxPiece - 1, api.MaxPiece} {
			wantSplit(t, b, n, splitBy(b, n))
		}
	}
}

func TestP122SplitOfNoBytes(t *testing.T) {
	for _, b := range [][]byte{nil, {}, make([]byte, 0, 9)} {
		for _, n := range []int{1, 2, api.MaxPiece} {
			wantSplit(t, b, n, nil)
		}
	}
}

func TestP122SplitRefused(t *testing.T) {
	for _, size := range []int{0, 1, 9, api.MaxPiece, api.MaxSnap, api.MaxSnap + 1, 2 * api.MaxSnap} {
		// ErrArg comes ahead of ErrLong.
		for _, n := range []int{0, -1, -api.MaxPiece, api.MaxPiece + 1, 2 * api.MaxPiece, api.MaxSnap, 1 << 32, 1<<32 + 1, most, least} {
			wantSplitRefused(t, api.ErrArg, make([]byte, size), n)
		}
	}
	for _, size := range []int{api.MaxSnap + 1, api.MaxSnap + 2, 2 * api.MaxSnap} {
		for _, n := range []int{1, 2, 7, api.MaxPiece - 1, api.MaxPiece} {
			wantSplitRefused(t, api.ErrLong, make([]byte, size), n)
		}
	}
}

func TestP122Pieces(t *testing.T) {
	check := func(want []api.Piece, l ...[]byte) {
		t.Helper()
		if got := snap.Pieces(l...); !slices.Equal(got, want) {
			t.Errorf("Pieces = %v; want %v", got, want)
		}
	}
	digits := []byte("123456789")
	check(nil)
	check([]api.Piece{{}}, nil)
	check([]api.Piece{{}}, []byte{})
	check([]api.Piece{piece(9, 0xE3069283)}, digits)
	check([]api.Piece{{}, piece(9, 0xE3069283), {}, piece(9, 0xE3069283), piece(4, 0x48674BC7)}, nil, digits, []byte{}, digits, make([]byte, 4))
	// Pieces of any length: no limit is told.
	long := scattered(api.MaxSnap + 1)
	check([]api.Piece{piece(api.MaxSnap+1, frame.Sum(long)), piece(1, frame.Sum(long[:1]))}, long, long[:1])
}

func TestP122Fits(t *testing.T) {
	for _, size := range []int{0, 1, 2, 9, api.MaxPiece, api.MaxPiece + 1, api.MaxSnap + 1} {
		b := scattered(size)
		p := api.Piece{Len: size, Sum: frame.Sum(b)}
		if !snap.Fits(p, b) {
			t.Errorf("%d bytes do not fit what is known of them", size)
		}
		for _, other := range []int{size + 1, size - 1, -1, -size - 1, size + 1<<32, most, least} {
			if snap.Fits(api.Piece{Len: other, Sum: p.Sum}, b) {
				t.Errorf("%d bytes fit the length %d", size, other)
			}
		}
		for _, other := range []uint32{p.Sum + 1, p.Sum ^ 1, p.Sum ^ 1<<31, ^p.Sum} {
			if snap.Fits(api.Piece{Len: size, Sum: other}, b) {
				t.Errorf("%d bytes fit the sum %x; it is %x", size, other, p.Sum)
			}
		}
	}
	// Both wrong: another one's; and one with the same sum, but another length.
	if snap.Fits(api.Piece{Len: 1, Sum: frame.Sum([]byte{1})}, []byte{1, 2}) || snap.Fits(api.Piece{Len: 1, Sum: frame.Sum([]byte{1})}, nil) {
		t.Error("another one fits")
	}
	if !snap.Fits(api.Piece{}, nil) || !snap.Fits(api.Piece{}, []byte{}) || snap.Fits(api.Piece{}, []byte{0}) {
		t.Error("what is known of no bytes")
	}
	if snap.Fits(api.Piece{Len: 0, Sum: 1}, nil) || snap.Fits(api.Piece{Len: 1, Sum: 0}, nil) {
		t.Error("no bytes fit something else")
	}
}

func TestP122Join(t *testing.T) {
	a, b, c := []byte{1, 2}, []byte{3}, []byte{4, 5, 6}
	wantJoin(t, snap.Pieces(a, b, c), [][]byte{a, b, c}, []byte{1, 2, 3, 4, 5, 6})
	wantJoin(t, snap.Pieces(c, b, a), [][]byte{c, b, a}, []byte{4, 5, 6, 3, 1, 2})
	wantJoin(t, snap.Pieces(b), [][]byte{b}, b)
	wantJoin(t, snap.Pieces(b, b), [][]byte{b, b}, []byte{3, 3})
	wantJoin(t, snap.Pieces(a, nil, b), [][]byte{a, {}, b}, []byte{1, 2, 3})
	wantJoin(t, snap.Pieces(nil), [][]byte{nil}, nil)
	// Nothing known, and nothing there.
	wantJoin(t, nil, nil, nil)
	wantJoin(t, []api.Piece{}, [][]byte{}, nil)
	wantJoin(t, []api.Piece{piece(2, frame.Sum(a))}, [][]byte{a}, a)
}

func TestP122JoinOfWrongPieces(t *testing.T) {
	a, b, c := []byte{1, 2}, []byte{3, 9}, []byte{4, 5, 6}
	known := snap.Pieces(a, b, c)
	// Too few, too many.
	for _, l := range [][][]byte{nil, {a}, {a, b}, {a, c}, {b, c}, {a, b, c, nil}, {a, b, c, c}, {a, b, c, a}, {nil, a, b, c}, {a, a, b, c}} {
		wantJoinRefused(t, api.ErrSnap, known, l...)
	}
	wantJoinRefused(t, api.ErrSnap, nil, a)
	wantJoinRefused(t, api.ErrSnap, nil, nil)
	wantJoinRefused(t, api.ErrSnap, []api.Piece{{}}, [][]byte{}...)
	// In another order, or with another one at some place.
	for _, l := range [][][]byte{{b, a, c}, {a, c, b}, {c, b, a}, {b, c, a}, {c, a, b}, {a, a, c}, {a, b, b}, {b, b, c}, {a, b, nil}, {nil, b, c}, {a, nil, c}} {
		wantJoinRefused(t, api.ErrSnap, known, l...)
	}
	// The same bytes, parted otherwise.
	wantJoinRefused(t, api.ErrSnap, known, []byte{1}, []byte{2, 3, 9}, c)
	wantJoinRefused(t, api.ErrSnap, known, []byte{1, 2, 3, 9}, nil, c)
	wantJoinRefused(t, api.ErrSnap, known, []byte{1, 2, 3, 9, 4, 5, 6})
	// What is known is wrong: the length, or the sum, of each in turn.
	for i := range known {
		for _, change := range []api.Piece{{Len: 1}, {Len: -1}, {Sum: 1}, {Sum: 1 << 31}} {
			wrong := slices.Clone(known)
			wrong[i].Len += change.Len
			wrong[i].Sum ^= change.Sum
			wantJoinRefused(t, api.ErrSnap, wrong, a, b, c)
		}
	}
}

func TestP122JoinHowLong(t *testing.T) {
	all := scattered(api.MaxSnap + 1)
	for _, sizes := range [][]int{{api.MaxSnap}, {0, api.MaxSnap, 0}, {1, api.MaxSnap - 1}, {api.MaxSnap - 1, 1}, {api.MaxSnap / 2, api.MaxSnap / 2}, {7, 77, 777, api.MaxSnap - 861}} {
		var l [][]byte
		at := 0
		for _, size := range sizes {
			l = append(l, all[at:at+size])
			at += size
		}
		wantJoin(t, snap.Pieces(l...), l, all[:api.MaxSnap])
		// One byte more, at the end or at the beginning.
		last := slices.Clone(l)
		last[len(last)-1] = append(slices.Clone(last[len(last)-1]), 5)
		first := slices.Clone(l)
		first[0] = append([]byte{5}, first[0]...)
		for _, long := range [][][]byte{last, first, append(slices.Clone(l), []byte{5})} {
			known := snap.Pieces(long...)
			wantJoinRefused(t, api.ErrLong, known, long...)
			// ErrSnap comes ahead of ErrLong.
			wantJoinRefused(t, api.ErrSnap, known[1:], long...)
			wantJoinRefused(t, api.ErrSnap, append(known, api.Piece{}), long...)
			known[len(known)-1].Sum++
			wantJoinRefused(t, api.ErrSnap, known, long...)
		}
	}
	twice := [][]byte{all, all}
	wantJoinRefused(t, api.ErrLong, snap.Pieces(all), all)
	wantJoinRefused(t, api.ErrLong, snap.Pieces(twice...), twice...)
	wantJoinRefused(t, api.ErrSnap, []api.Piece{{}, {}}, twice...)
	// As many pieces as may be, and one more.
	ones := splitBy(all, 1)
	wantJoin(t, snap.Pieces(ones[1:]...), ones[1:], all[1:])
	wantJoinRefused(t, api.ErrLong, snap.Pieces(ones...), ones...)
}

func TestP124ThereAndBack(t *testing.T) {
	for _, size := range []int{0, 1, 2, 3, 7, 100, 255, 256, 257, 4096, 5000, 12288, api.MaxSnap - 1, api.MaxSnap} {
		b := scattered(size)
		for _, n := range []int{1, 2, 3, 4, 5, 255, 256, 1000, api.MaxPiece} {
			l, e := snap.Split(b, n)
			if e != api.OK || len(l) != (size+n-1)/n {
				t.Fatalf("Split of %d bytes by %d: %d pieces, %d", size, n, len(l), e)
			}
			wantJoin(t, snap.Pieces(l...), l, b)
		}
	}
}

func TestP124LeftOutOrDoubled(t *testing.T) {
	for _, b := range [][]byte{scattered(40), make([]byte, 40), stateForm(full())} {
		for _, n := range []int{1, 3, 8, 39, 40, 64} {
			l, _ := snap.Split(b, n)
			known := snap.Pieces(l...)
			for i, piece := range l {
				wantJoinRefused(t, api.ErrSnap, known, slices.Delete(slices.Clone(l), i, i+1)...)
				for at := range len(l) + 1 {
					wantJoinRefused(t, api.ErrSnap, known, slices.Insert(slices.Clone(l), at, piece)...)
				}
				// In the place of another one it is told as far as it is another one.
				for at := range l {
					other := slices.Clone(l)
					other[at] = piece
					if bytes.Equal(l[at], piece) {
						wantJoin(t, known, other, b)
					} else {
						wantJoinRefused(t, api.ErrSnap, known, other...)
					}
				}
			}
		}
	}
}

// turned is b with bits turned: those of the pattern, from that bit on, of a byte the lowest one first.
func turned(b []byte, from int, pattern uint32) []byte {
	c := slices.Clone(b)
	for i := range 32 {
		if bit := from + i; pattern>>i&1 == 1 && bit < 8*len(b) {
			c[bit/8] ^= 1 << (bit % 8)
		}
	}
	return c
}

func TestP124BitsTurned(t *testing.T) {
	r := rand.New(rand.NewSource(4))
	patterns := []uint32{1, 3, 5, 1<<31 | 1, 1<<32 - 1, 0x82F63B78 | 1, 0x105EC76F, 0x1EDC6F41}
	for range 20 {
		patterns = append(patterns, r.Uint32()|1)
	}
	for _, b := range [][]byte{scattered(30), make([]byte, 30), bytes.Repeat([]byte{255}, 30)} {
		for _, n := range []int{1, 2, 3, 4, 5, 7, 10, 16, 29, 30, 31} {
			l, _ := snap.Split(b, n)
			known := snap.Pieces(l...)
			for from := range 8 * len(b) {
				for _, pattern := range patterns {
					other, _ := snap.Split(turned(b, from, pattern), n)
					wantJoinRefused(t, api.ErrSnap, known, other...)
				}
			}
			if t.Failed() {
				return
			}
		}
	}
	// Of a long one, at some places.
	b := scattered(api.MaxSnap)
	l, _ := snap.Split(b, 256)
	known := snap.Pieces(l...)
	for range 100 {
		other, _ := snap.Split(turned(b, r.Intn(8*len(b)), r.Uint32()|1), 256)
		wantJoinRefused(t, api.ErrSnap, known, other...)
	}
}

func FuzzPieces(f *testing.F) {
	f.Add([]byte("bytes that are parted"), 5, 17, uint32(1))
	f.Add([]byte{}, 0, 0, uint32(0))
	f.Fuzz(func(t *testing.T, b []byte, n, from int, pattern uint32) {
		if n < 1 || n > 4096 {
			wantSplitRefused(t, api.ErrArg, b, n)
			return
		}
		if len(b) > 1<<17 {
			wantSplitRefused(t, api.ErrLong, b, n)
			return
		}
		l := splitBy(b, n)
		wantSplit(t, b, n, l)
		known := snap.Pieces(l...)
		wantJoin(t, known, l, b)
		if len(b) == 0 {
			return
		}
		other := turned(b, int(uint(from)%uint(8*len(b))), pattern)
		if bytes.Equal(b, other) {
			return
		}
		wantJoinRefused(t, api.ErrSnap, known, splitBy(other, n)...)
	})
}
