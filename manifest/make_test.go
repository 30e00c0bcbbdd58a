package manifest_test

import (
	"bytes"
	"math/rand"
	"reflect"
	"slices"
	"testing"

	"pontoon/api"
	"pontoon/flow"
	"pontoon/graph"
	"pontoon/manifest"
)

// TestExample: the chapter's one.
func TestExample(t *testing.T) {
	f, _ := flow.New(short(), 2)
	two := []api.Record{rec(3, 4), rec(5, 6)}
	f.Feed(0, two...)
	f.Barrier(1)
	f.Drain()
	s, ok := f.Snap()
	if !ok || s.Out != 2 {
		t.Fatalf("Snap = %v, %v", s, ok)
	}
	m, pieces, e := manifest.Make(short(), 1, s, 0, two, 4)
	if e != api.OK || m.Out != 2 {
		t.Fatalf("Make = %v, %d", m, e)
	}
	wantOpen(t, short(), m, pieces, s)
	wantMakeRefused(t, api.ErrManifest, short(), 1, s, 1, two, 4)
}

// TestP172Make: all of a small one, number by number. (The sums are those of its bytes, bit by bit.)
func TestP172Make(t *testing.T) {
	s := at(short(), 3, 5)
	s.Vector[0] = 5
	m, pieces, e := manifest.Make(short(), 9, s, 3, []api.Record{rec(1, 2), rec(3, -4)}, 4)
	form := []byte{6, 2, 10, 10, 4, 0, 0, 0, 0, 0, 0}
	want := api.Manifest{
		Epoch:   9,
		Id:      3,
		Vector:  []int64{5},
		Out:     5,
		Begin:   3,
		Records: []api.Record{rec(1, 2), rec(3, -4)},
		Pieces:  []api.Piece{{Len: 4, Sum: bitwise(form[:4])}, {Len: 4, Sum: bitwise(form[4:8])}, {Len: 3, Sum: bitwise(form[8:])}},
		Graph:   bitwise([]byte{2, 4, 2, 0, 0, 0, 0, 18, 0, 0, 0, 2, 0, 0}),
	}
	if e != api.OK || !reflect.DeepEqual(m, want) {
		t.Errorf("Make = %+v, %d; want %+v", m, e, want)
	}
	if !slices.EqualFunc(pieces, [][]byte{form[:4], form[4:8], form[8:]}, bytes.Equal) {
		t.Errorf("the pieces are %v", pieces)
	}
}

// bitwise is the sum of chapter 2, bit by bit.
func bitwise(b []byte) uint32 {
	rest := uint32(0xFFFFFFFF)
	for _, c := range b {
		for bit := range 8 {
			turn := uint32(c>>bit&1) != rest&1
			rest >>= 1
			if turn {
				rest ^= 0x82F63B78
			}
		}
	}
	return ^rest
}

func TestP172MakeAsModel(t *testing.T) {
	for _, n := range []int{1, 2, 3, 16, 100, 255, 256, 4095, 4096} {
		for _, epoch := range []int64{1, 2, end - 1, end} {
			wantMade(t, wide(), epoch, full(), 70_000, nil, n)
			wantMade(t, wide(), epoch, full(), 69_993, count(7), n)
			wantMade(t, short(), epoch, at(short(), 1, 0), 0, nil, n)
			wantMade(t, four(), epoch, at(four(), end, end), end-4096, count(4096), n)
		}
	}
	r := rand.New(rand.NewSource(172))
	for range 300 {
		g := grown(r)
		s, out := lived(t, r, g)
		begin := r.Intn(len(out) + 1)
		wantMade(t, g, 1+r.Int63n(end), s, int64(begin), out[begin:], 16+r.Intn(60))
	}
}

func TestP172MakeOfBadGraphs(t *testing.T) {
	for want, l := range badGraphs(t) {
		for _, g := range l {
			wantMakeRefused(t, want, g, 1, nothing(api.Graph{Parts: 1, Ops: g.Ops}), 0, nil, 16)
			// It comes ahead of all others: of the state, of n, of Check.
			wantMakeRefused(t, want, g, 1, api.FlowState{}, 0, nil, 16)
			wantMakeRefused(t, want, g, 0, api.FlowState{Id: -1}, 0, nil, 0)
			wantMakeRefused(t, want, g, -1, full(), 9, count(3), 4097)
		}
	}
}

func TestP172MakeOfBadStates(t *testing.T) {
	for _, s := range badStates() {
		wantMakeRefused(t, api.ErrState, wide(), 1, s, s.Out, nil, 16)
		// It comes ahead of n, and of Check.
		wantMakeRefused(t, api.ErrState, wide(), 1, s, s.Out, nil, 0)
		wantMakeRefused(t, api.ErrState, wide(), 0, s, 5, count(3), 4097)
	}
}

func TestP172MakeHowLong(t *testing.T) {
	g := folded(api.FnSum)
	// A state as long as may be is just as many pieces of 256 bytes as may be.
	for _, size := range []int{api.MaxSnap - 1, api.MaxSnap} {
		s := keysLong(t, size)
		for _, n := range []int{256, 257, 4096} {
			m, pieces := wantMade(t, g, 1, s, 0, nil, n)
			if n == 256 && len(m.Pieces) != 512 {
				t.Errorf("%d pieces", len(m.Pieces))
			}
			wantOpen(t, g, m, pieces, s)
		}
		for _, n := range []int{255, 100, 1} {
			wantMakeRefused(t, api.ErrManifest, g, 1, s, 0, nil, n)
		}
	}
	for _, size := range []int{api.MaxSnap + 1, 2 * api.MaxSnap} {
		s := keysLong(t, size)
		for _, n := range []int{256, 4096, 1} {
			wantMakeRefused(t, api.ErrLong, g, 1, s, 0, nil, n)
		}
		// It comes ahead of n, and of Check.
		wantMakeRefused(t, api.ErrLong, g, 0, s, 7, count(1), 0)
		wantMakeRefused(t, api.ErrLong, g, 1, s, 0, nil, 4097)
	}
}

// TestP172MakeHowManyPieces: more pieces than a manifest may have.
func TestP172MakeHowManyPieces(t *testing.T) {
	g := folded(api.FnSum)
	for _, n := range []int{1, 2, 3} {
		for _, size := range []int{511 * n, 512 * n} {
			m, pieces := wantMade(t, g, 1, keysLong(t, size), 0, nil, n)
			if len(pieces) != size/n || len(m.Pieces) != size/n {
				t.Errorf("%d bytes by %d are %d pieces", size, n, len(pieces))
			}
		}
		for _, size := range []int{512*n + 1, 513 * n, 2000 * n} {
			wantMakeRefused(t, api.ErrManifest, g, 1, keysLong(t, size), 0, nil, n)
		}
	}
}

func TestP172MakeOfBadLengths(t *testing.T) {
	for _, n := range []int{0, -1, -4096, 4097, 4098, 1 << 17, 1 << 32, 1<<32 + 1, most, least} {
		wantMakeRefused(t, api.ErrArg, wide(), 1, full(), 70_000, nil, n)
		// It comes ahead of Check.
		wantMakeRefused(t, api.ErrArg, wide(), 0, full(), 70_000, nil, n)
		wantMakeRefused(t, api.ErrArg, wide(), 1, full(), 70_001, nil, n)
		wantMakeRefused(t, api.ErrArg, wide(), 1, full(), 69_999, nil, n)
	}
}

func TestP172MakeOfWhatCheckRefuses(t *testing.T) {
	refused := func(epoch int64, s api.FlowState, begin int64, records []api.Record) {
		t.Helper()
		wantMakeRefused(t, api.ErrManifest, wide(), epoch, s, begin, records, 16)
	}
	for _, epoch := range []int64{0, -1, end + 1, most, least} {
		refused(epoch, full(), 70_000, nil)
		refused(epoch, full(), 69_998, count(2))
	}
	for _, begin := range []int64{70_001, 70_002, end, most, -1, least, 0, 69_999} {
		refused(1, full(), begin, nil)
	}
	refused(1, full(), -1, count(2))
	refused(1, at(wide(), 1, 1), -1, count(2))
	refused(1, at(wide(), 1, 0), -1, count(1))
	// Too few and too many records.
	for _, n := range []int{0, 1, 2, 4, 5, 4096} {
		refused(1, full(), 69_997, count(n))
	}
	refused(1, full(), 70_000, count(1))
	// As many as there must be, but more than may be.
	refused(1, full(), 70_000-4097, count(4097))
	refused(1, at(wide(), 1, 5000), 0, count(5000))
	wantMade(t, wide(), 1, full(), 70_000-4096, count(4096), 16)
	// A state at no barrier.
	refused(1, at(wide(), 0, 0), 0, nil)
	refused(1, nothing(wide()), 0, nil)
}

// TestP172MakeErrorsInOrder: all sets of faults that go with each other.
func TestP172MakeErrorsInOrder(t *testing.T) {
	good, long := at(folded(api.FnSum), 4, 3), keysLong(t, api.MaxSnap+9)
	long.Out = 3
	for set := range 64 {
		has := func(bit int) bool { return set>>bit&1 == 1 }
		g, s, n, epoch, records := folded(api.FnSum), good, 16, int64(1), count(3)
		want := api.OK
		if has(5) {
			want, records = api.ErrManifest, records[:2]
		}
		if has(4) {
			want, epoch = api.ErrManifest, 0
		}
		if has(3) {
			want, n = api.ErrArg, 0
		}
		if has(2) {
			want, s = api.ErrLong, long
		}
		if has(1) {
			s = copyState(s)
			want, s.Tasks[1].State.Turn = api.ErrState, 1
		}
		if has(0) {
			want, g = api.ErrField, graph.Clone(g)
			g.Ops[1].Fn = 6
		}
		if set == 0 {
			wantMade(t, g, epoch, s, 0, records, n)
		} else {
			wantMakeRefused(t, want, g, epoch, s, 0, records, n)
		}
	}
}
