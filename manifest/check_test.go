package manifest_test

import (
	"math/rand"
	"slices"
	"testing"

	"pontoon/api"
)

// outOf is base with that Out and Begin, and so many records.
func outOf(out, begin int64, records int) api.Manifest {
	return but(func(m *api.Manifest) { m.Out, m.Begin, m.Records = out, begin, count(records) })
}

func vectorOf(l ...int64) api.Manifest {
	return but(func(m *api.Manifest) { m.Vector = l })
}

func piecesOf(l ...api.Piece) api.Manifest {
	return but(func(m *api.Manifest) { m.Pieces = l })
}

// times is n, that many times.
func times(many, n int) []int {
	return slices.Repeat([]int{n}, many)
}

// goodManifests may be: each at some bound.
func goodManifests() []api.Manifest {
	l := []api.Manifest{base()}
	for _, n := range []int64{1, 2, end - 1, end} {
		l = append(l, but(func(m *api.Manifest) { m.Epoch = n }), but(func(m *api.Manifest) { m.Id = n }), but(func(m *api.Manifest) { m.Epoch, m.Id = n, n }))
	}
	for _, n := range []int64{0, 1, end - 1, end} {
		l = append(l, vectorOf(n), vectorOf(n, 1), vectorOf(1, n), vectorOf(1, 2, 3, n), vectorOf(n, n, n, n))
	}
	l = append(l, vectorOf(0, 0, 0))
	l = append(l, outOf(0, 0, 0), outOf(1, 0, 1), outOf(1, 1, 0), outOf(end, end, 0), outOf(end, end-1, 1), outOf(end, end-4096, 4096), outOf(4096, 0, 4096), outOf(4095, 0, 4095), outOf(4097, 1, 4096))
	l = append(l, piecesOf(), piecesOf(lens(1)...), piecesOf(lens(4096)...), piecesOf(lens(1, 4096, 1)...), piecesOf(lens(times(511, 1)...)...), piecesOf(lens(times(512, 1)...)...))
	// All together of 2^17 bytes.
	l = append(l, piecesOf(lens(times(32, 4096)...)...), piecesOf(lens(times(512, 256)...)...), piecesOf(lens(append(times(31, 4096), 4095, 1)...)...), piecesOf(lens(append(times(31, 4096), 4095)...)...))
	for _, sum := range []uint32{0, 1, 1 << 31, 1<<32 - 1} {
		l = append(l, but(func(m *api.Manifest) { m.Graph = sum }), but(func(m *api.Manifest) { m.Pieces[1].Sum = sum }))
	}
	for _, n := range []int64{0, -1, end + 1, most, least} {
		l = append(l, but(func(m *api.Manifest) { m.Records[0].Key = n }), but(func(m *api.Manifest) { m.Records[2].Val = n }))
	}
	return l
}

// badManifests may not be: mostly for one fault alone.
func badManifests() []api.Manifest {
	var l []api.Manifest
	for _, n := range []int64{0, -1, -2, end + 1, end + 2, most, least, -end} {
		l = append(l, but(func(m *api.Manifest) { m.Epoch = n }), but(func(m *api.Manifest) { m.Id = n }))
	}
	l = append(l, vectorOf(), vectorOf(0, 0, 0, 0, 0), vectorOf(1, 2, 3, 4, 5), vectorOf(make([]int64, 1000)...))
	for _, n := range []int64{-1, end + 1, most, least, -end} {
		l = append(l, vectorOf(n), vectorOf(n, 1), vectorOf(1, n), vectorOf(1, 2, 3, n), vectorOf(1, n, 3, 4))
	}
	// Out below 0 and above MaxNum, with as many records as there would be.
	l = append(l, outOf(-1, -1, 0), outOf(-1, -4, 3), outOf(-1, 0, 0), outOf(end+1, end+1, 0), outOf(end+1, end, 1), outOf(end+1, end-2, 3), outOf(most, most, 0), outOf(least, least, 0), outOf(most, most-3, 3), outOf(least, least, 3))
	// Begin below 0 and above Out.
	l = append(l, outOf(3, -1, 4), outOf(0, -1, 1), outOf(0, -1, 0), outOf(3, 4, 0), outOf(3, 4, 1), outOf(0, 1, 0), outOf(end, end+1, 0), outOf(3, most, 0), outOf(3, least, 0), outOf(3, least, 3), outOf(0, least, 0), outOf(end, least, 3), outOf(end, -1, 3))
	// As many records as there would be, if a difference of four bytes were told.
	l = append(l, outOf(wide4+3, 0, 3), outOf(end, 3, 0), outOf(end, 0, 0))
	for _, n := range []int{0, 1, 2, 4, 5, 100} {
		l = append(l, outOf(10, 7, n))
	}
	l = append(l, outOf(0, 0, 1), outOf(end, end, 1), outOf(4097, 0, 4097), outOf(4098, 1, 4097), outOf(4097, 0, 4096), outOf(8192, 0, 8192), outOf(end, end-4097, 4097), outOf(5000, 0, 4096))
	l = append(l, piecesOf(lens(times(513, 1)...)...), piecesOf(lens(times(514, 1)...)...), piecesOf(make([]api.Piece, 513)...))
	for _, n := range []int{0, -1, 4097, 8192, 1 << 17, 1<<32 + 1, most, least, -4096} {
		l = append(l, piecesOf(lens(n)...), piecesOf(lens(n, 1, 1)...), piecesOf(lens(1, n, 1)...), piecesOf(lens(1, 1, n)...), piecesOf(lens(append(times(511, 1), n)...)...))
	}
	l = append(l, piecesOf(lens(most, most, 3)...), piecesOf(lens(least, least)...), piecesOf(lens(4096, -4095)...), piecesOf(lens(append(times(32, 4096), -1, 2)...)...))
	// All together of one byte more than 2^17, and of more.
	l = append(l, piecesOf(lens(append(times(32, 4096), 1)...)...), piecesOf(lens(append([]int{1}, times(32, 4096)...)...)...), piecesOf(lens(append(times(511, 256), 257)...)...), piecesOf(lens(append(times(31, 4096), 4095, 2)...)...), piecesOf(lens(times(33, 4096)...)...), piecesOf(lens(times(512, 4096)...)...))
	return append(l, api.Manifest{})
}

func TestP171Check(t *testing.T) {
	for _, m := range goodManifests() {
		wantCheck(t, m, api.OK)
	}
}

func TestP171CheckRefuses(t *testing.T) {
	for _, m := range badManifests() {
		wantCheck(t, m, api.ErrManifest)
	}
}

// TestP171CheckEachFieldFilled: of a zero manifest all that must be there is asked for, one thing after the other.
func TestP171CheckEachFieldFilled(t *testing.T) {
	var m api.Manifest
	wantCheck(t, m, api.ErrManifest)
	m.Epoch = 1
	wantCheck(t, m, api.ErrManifest)
	m.Id = 1
	wantCheck(t, m, api.ErrManifest)
	m.Vector = []int64{0}
	wantCheck(t, m, api.OK)
	m.Epoch = 0
	wantCheck(t, m, api.ErrManifest)
}

// TestP171CheckAsModel: manifests with several numbers near bounds at once.
func TestP171CheckAsModel(t *testing.T) {
	r := rand.New(rand.NewSource(171))
	good := 0
	for range 100_000 {
		m := nearBounds(r)
		want := check(m)
		if want == api.OK {
			good++
		}
		wantCheck(t, m, want)
		if t.Failed() {
			return
		}
	}
	if good < 1000 {
		t.Errorf("%d may be: too few", good)
	}
}

// nearBounds is a manifest with numbers that are mostly within their bounds, or next to them.
func nearBounds(r *rand.Rand) api.Manifest {
	near := func(l ...int64) int64 { return l[r.Intn(len(l))] }
	number := func(first int64) int64 {
		if r.Intn(12) == 0 {
			return near(first-1, end+1, most, least)
		}
		return near(first, first+1, 5, end-1, end)
	}
	m := api.Manifest{Epoch: number(1), Id: number(1), Out: number(0), Graph: r.Uint32()}
	for range near(1, 1, 2, 3, 4, 4, near(0, 5)) {
		m.Vector = append(m.Vector, number(0))
	}
	records := near(0, 0, 1, 2, 5)
	m.Begin = m.Out - records
	if r.Intn(12) == 0 {
		m.Begin += near(-1, 1, 1<<32, least)
	}
	m.Records = count(int(records))
	for range near(0, 1, 2, 3) {
		m.Pieces = append(m.Pieces, api.Piece{Len: int(near(1, 1, 2, 300, 4096)), Sum: r.Uint32()})
	}
	if r.Intn(12) == 0 {
		m.Pieces = append(m.Pieces, api.Piece{Len: int(near(0, -1, 4097, most, least))})
	}
	if r.Intn(40) == 0 {
		m.Pieces = lens(times(int(near(31, 32, 33)), 4096)...)
	}
	return m
}
