package manifest_test

import (
	"bytes"
	"math"
	"math/big"
	"reflect"
	"slices"
	"testing"

	"pontoon/api"
	"pontoon/frame"
	"pontoon/graph"
	"pontoon/manifest"
	"pontoon/snap"
)

const (
	most  = math.MaxInt64
	least = math.MinInt64
	end   = int64(1) << 53 // the greatest number that a manifest may have
	wide4 = int64(1) << 32 // one more than four bytes hold
)

func rec(key, val int64) api.Record {
	return api.Record{Key: key, Val: val}
}

// count is that many records, no two of them alike.
func count(n int) []api.Record {
	var l []api.Record
	for i := range n {
		l = append(l, rec(int64(i%5), int64(i)-2))
	}
	return l
}

// lens are pieces of these lengths.
func lens(l ...int) []api.Piece {
	var pieces []api.Piece
	for i, n := range l {
		pieces = append(pieces, api.Piece{Len: n, Sum: uint32(i)})
	}
	return pieces
}

// base is a manifest that may be, with something in each field.
func base() api.Manifest {
	return api.Manifest{
		Epoch:   3,
		Id:      400,
		Vector:  []int64{5, 70},
		Out:     10,
		Begin:   7,
		Records: []api.Record{rec(1, -1), rec(most, least), rec(64, -65)},
		Pieces:  []api.Piece{{Len: 16, Sum: 0xdeadbeef}, {Len: 4, Sum: 0}},
		Graph:   77,
	}
}

// but is base with a change.
func but(change func(m *api.Manifest)) api.Manifest {
	m := base()
	change(&m)
	return m
}

// copyOf is m in memory of its own.
func copyOf(m api.Manifest) api.Manifest {
	m.Vector, m.Records, m.Pieces = slices.Clone(m.Vector), slices.Clone(m.Records), slices.Clone(m.Pieces)
	return m
}

// wordsOf are the numbers of m's form, as P17.3 tells them. They part any two manifests that differ.
func wordsOf(m api.Manifest) []int64 {
	l := []int64{m.Epoch}
	l = append(l, m.Id)
	l = append(l, int64(len(m.Vector)))
	l = append(l, m.Vector...)
	l = append(l, m.Out)
	l = append(l, m.Begin)
	l = append(l, int64(len(m.Records)))
	for _, r := range m.Records {
		l = append(l, r.Key, r.Val)
	}
	l = append(l, int64(len(m.Pieces)))
	for _, p := range m.Pieces {
		l = append(l, int64(p.Len), int64(p.Sum))
	}
	return append(l, int64(m.Graph))
}

func alike(a, b api.Manifest) bool {
	return slices.Equal(wordsOf(a), wordsOf(b))
}

// numberForm is the form of n as chapter 1 tells it.
func numberForm(n int64) []byte {
	natural := 2 * uint64(n)
	if n < 0 {
		natural = 2*uint64(-(n+1)) + 1
	}
	digits := []byte{byte(natural % 128)}
	for natural /= 128; natural > 0; natural /= 128 {
		digits = append(digits, 128+byte(natural%128))
	}
	slices.Reverse(digits)
	return digits
}

func formOf(l ...int64) []byte {
	var b []byte
	for _, n := range l {
		b = append(b, numberForm(n)...)
	}
	return b
}

// manifestForm is the form of m, whether it may be or not.
func manifestForm(m api.Manifest) []byte {
	return formOf(wordsOf(m)...)
}

// check is what P17.1 tells of Check.
func check(m api.Manifest) api.Errno {
	outside := func(n, from, to int64) bool { return n < from || n > to }
	if outside(m.Epoch, 1, end) || outside(m.Id, 1, end) {
		return 170
	}
	if outside(int64(len(m.Vector)), 1, 4) {
		return 170
	}
	for _, n := range m.Vector {
		if outside(n, 0, end) {
			return 170
		}
	}
	if outside(m.Out, 0, end) || outside(m.Begin, 0, m.Out) {
		return 170
	}
	if m.Out-m.Begin != int64(len(m.Records)) || len(m.Records) > 4096 {
		return 170
	}
	if len(m.Pieces) > 512 {
		return 170
	}
	together := new(big.Int)
	for _, p := range m.Pieces {
		if outside(int64(p.Len), 1, 4096) {
			return 170
		}
		together.Add(together, big.NewInt(int64(p.Len)))
	}
	if together.Cmp(big.NewInt(1<<17)) > 0 {
		return 170
	}
	return 0
}

// makeOf is what P17.2 tells of Make.
func makeOf(g api.Graph, epoch int64, s api.FlowState, begin int64, records []api.Record, n int) (api.Manifest, [][]byte, api.Errno) {
	state, e := snap.Bytes(g, s)
	if e != api.OK {
		return api.Manifest{}, nil, e
	}
	pieces, e := snap.Split(state, n)
	if e != api.OK {
		return api.Manifest{}, nil, e
	}
	form, _ := graph.Bytes(g)
	m := api.Manifest{
		Epoch:   epoch,
		Id:      s.Id,
		Vector:  s.Vector,
		Out:     s.Out,
		Begin:   begin,
		Records: records,
		Pieces:  snap.Pieces(pieces...),
		Graph:   frame.Sum(form),
	}
	if e := check(m); e != api.OK {
		return api.Manifest{}, nil, e
	}
	return m, pieces, api.OK
}

// openOf is what P17.4 tells of Open.
func openOf(g api.Graph, m api.Manifest, pieces [][]byte) (api.FlowState, api.Errno) {
	if e := check(m); e != api.OK {
		return api.FlowState{}, e
	}
	if _, e := graph.Check(g); e != api.OK {
		return api.FlowState{}, e
	}
	if form, _ := graph.Bytes(g); frame.Sum(form) != m.Graph {
		return api.FlowState{}, 170
	}
	joined, e := snap.Join(m.Pieces, pieces...)
	if e != api.OK {
		return api.FlowState{}, e
	}
	s, e := snap.Parse(g, joined)
	if e != api.OK {
		return api.FlowState{}, e
	}
	if s.Id != m.Id || s.Out != m.Out || !slices.Equal(s.Vector, m.Vector) {
		return api.FlowState{}, 170
	}
	return s, api.OK
}

// cursor goes through numbers, and keeps its first error.
type cursor struct {
	numbers []int64
	left    bool      // whether there are bytes behind the last one
	end     api.Errno // the error of what reads on behind the last one
	err     api.Errno
}

// cursorOf takes b apart as chapter 1 tells it.
func cursorOf(b []byte) *cursor {
	c := &cursor{end: api.ErrShort}
	above := new(big.Int).Lsh(big.NewInt(1), 64)
	for len(b) > 0 {
		so, size := new(big.Int), 0
		for size < len(b) {
			digit := b[size]
			so.Mul(so, big.NewInt(128)).Add(so, big.NewInt(int64(digit%128)))
			if size == 0 && digit == 128 || so.Cmp(above) >= 0 {
				c.left, c.end = true, api.ErrShape
				return c
			}
			size++
			if digit < 128 {
				break
			}
		}
		if b[size-1] >= 128 {
			c.left = true
			return c
		}
		odd := so.Bit(0) == 1
		n := int64(so.Rsh(so, 1).Uint64())
		if odd {
			n = -n - 1
		}
		c.numbers = append(c.numbers, n)
		b = b[size:]
	}
	return c
}

func (c *cursor) next(from, to int64) int64 {
	switch {
	case c.err != api.OK:
	case len(c.numbers) == 0:
		c.err = c.end
	case c.numbers[0] < from || c.numbers[0] > to:
		c.err = api.ErrShape
	default:
		n := c.numbers[0]
		c.numbers = c.numbers[1:]
		return n
	}
	return 0
}

func (c *cursor) any() int64 {
	return c.next(least, most)
}

func (c *cursor) four() int64 {
	return c.next(0, wide4-1)
}

// many reads how many there are, and has each of them read.
func (c *cursor) many(one func()) {
	for n := c.next(0, 8192); n > 0 && c.err == api.OK; n-- {
		one()
	}
}

// parse is what P17.3 tells of Parse.
func parse(b []byte) (api.Manifest, api.Errno) {
	c := cursorOf(b)
	var m api.Manifest
	m.Epoch = c.any()
	m.Id = c.any()
	c.many(func() { m.Vector = append(m.Vector, c.any()) })
	m.Out = c.any()
	m.Begin = c.any()
	c.many(func() {
		key := c.any()
		m.Records = append(m.Records, rec(key, c.any()))
	})
	c.many(func() {
		size := c.four()
		m.Pieces = append(m.Pieces, api.Piece{Len: int(size), Sum: uint32(c.four())})
	})
	m.Graph = uint32(c.four())
	if c.err == api.OK && (len(c.numbers) > 0 || c.left) {
		c.err = api.ErrExtra
	}
	if c.err == api.OK {
		c.err = check(m)
	}
	if c.err != api.OK {
		return api.Manifest{}, c.err
	}
	return m, api.OK
}

// some are the first items of what is too long to be told.
func some[T any](l []T) []T {
	return l[:min(len(l), 40)]
}

func brief(m api.Manifest) []int64 {
	return some(wordsOf(m))
}

func wantCheck(t *testing.T, m api.Manifest, want api.Errno) {
	t.Helper()
	if e := manifest.Check(m); e != want {
		t.Errorf("Check(%v) = %d; want %d", brief(m), e, want)
	}
	if e := check(m); e != want {
		t.Errorf("the model says %d of %v; want %d", e, brief(m), want)
	}
}

// wantBytes: m may be, its form is want, and that is read again as m.
func wantBytes(t *testing.T, m api.Manifest, want []byte) {
	t.Helper()
	if b, e := manifest.Bytes(m); !bytes.Equal(b, want) || e != api.OK {
		t.Errorf("Bytes(%v) = %v, %d; want %v", brief(m), some(b), e, some(want))
	}
	wantParse(t, want, m)
}

func wantBytesRefused(t *testing.T, m api.Manifest) {
	t.Helper()
	if b, e := manifest.Bytes(m); b != nil || e != api.ErrManifest {
		t.Errorf("Bytes(%v) = %v, %d; want %d", brief(m), some(b), e, api.ErrManifest)
	}
}

func wantParse(t *testing.T, b []byte, want api.Manifest) {
	t.Helper()
	if m, e := manifest.Parse(b); !alike(m, want) || e != api.OK {
		t.Errorf("Parse(%v) = %v, %d; want %v", some(b), brief(m), e, brief(want))
	}
}

func wantParseRefused(t *testing.T, want api.Errno, b []byte) {
	t.Helper()
	if m, e := manifest.Parse(b); !reflect.DeepEqual(m, api.Manifest{}) || e != want {
		t.Errorf("Parse(%v) = %v, %d; want %d", some(b), brief(m), e, want)
	}
}

// wantAsModel: Parse answers what the model says.
func wantAsModel(t *testing.T, b []byte) api.Errno {
	t.Helper()
	m, e := parse(b)
	if e == api.OK {
		wantBytes(t, m, b)
	} else {
		wantParseRefused(t, e, b)
	}
	return e
}

func wantMakeRefused(t *testing.T, want api.Errno, g api.Graph, epoch int64, s api.FlowState, begin int64, records []api.Record, n int) {
	t.Helper()
	if m, pieces, e := manifest.Make(g, epoch, s, begin, records, n); !reflect.DeepEqual(m, api.Manifest{}) || pieces != nil || e != want {
		t.Errorf("Make = %v, %d pieces, %d; want %d", brief(m), len(pieces), e, want)
	}
}

// wantMade is what Make answers, which must be what the model says.
func wantMade(t *testing.T, g api.Graph, epoch int64, s api.FlowState, begin int64, records []api.Record, n int) (api.Manifest, [][]byte) {
	t.Helper()
	want, wantPieces, wantErr := makeOf(g, epoch, s, begin, records, n)
	m, pieces, e := manifest.Make(g, epoch, s, begin, records, n)
	if e != api.OK || wantErr != api.OK || !alike(m, want) || !slices.EqualFunc(pieces, wantPieces, bytes.Equal) {
		t.Fatalf("Make = %v, %d pieces, %d; the model says %v, %d pieces, %d", brief(m), len(pieces), e, brief(want), len(wantPieces), wantErr)
	}
	return m, pieces
}

func wantOpen(t *testing.T, g api.Graph, m api.Manifest, pieces [][]byte, want api.FlowState) {
	t.Helper()
	if s, e := manifest.Open(g, m, pieces...); e != api.OK || !snap.Same(s, want) {
		t.Errorf("Open(.., %v) = %v, %d; want %v", brief(m), s, e, want)
	}
}

func wantOpenRefused(t *testing.T, want api.Errno, g api.Graph, m api.Manifest, pieces ...[]byte) {
	t.Helper()
	if s, e := manifest.Open(g, m, pieces...); !reflect.DeepEqual(s, api.FlowState{}) || e != want {
		t.Errorf("Open(%v, %v) = %v, %d; want %d", g, brief(m), s, e, want)
	}
}
