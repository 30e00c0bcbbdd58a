package manifest_test

import (
	"bytes"
	"math/rand"
	"slices"
	"testing"

	"pontoon/api"
	"pontoon/flow"
	"pontoon/graph"
	"pontoon/manifest"
	"pontoon/snap"
)

// checkpoint is a manifest of some state, with its pieces.
type checkpoint struct {
	graph  api.Graph
	state  api.FlowState
	m      api.Manifest
	pieces [][]byte
}

// checkpointOf must be made, and opens.
func checkpointOf(t *testing.T, g api.Graph, s api.FlowState, begin int64, records []api.Record, n int) checkpoint {
	t.Helper()
	m, pieces, e := manifest.Make(g, 5, s, begin, records, n)
	if e != api.OK {
		t.Fatalf("Make(%v, 5, %v, ..): %d", g, s, e)
	}
	return checkpoint{g, s, m, pieces}
}

// checkpoints are some of all kinds.
func checkpoints(t *testing.T, many int) []checkpoint {
	l := []checkpoint{
		checkpointOf(t, wide(), full(), 69_990, count(10), 1),
		checkpointOf(t, wide(), full(), 70_000, nil, 7),
		checkpointOf(t, wide(), full(), 70_000, nil, 4096),
		checkpointOf(t, short(), at(short(), 1, 0), 0, nil, 1),
		checkpointOf(t, short(), at(short(), 1, 0), 0, nil, 3),
		checkpointOf(t, folded(api.FnSum), keysOf(100), 0, nil, 2),
		checkpointOf(t, four(), at(four(), end, 4096), 0, count(4096), 5),
	}
	r := rand.New(rand.NewSource(17))
	for range many {
		g := grown(r)
		s, out := lived(t, r, g)
		begin := r.Intn(len(out) + 1)
		least := len(stateForm(s))/512 + 1
		l = append(l, checkpointOf(t, g, s, int64(begin), out[begin:], least+r.Intn(40)))
	}
	return l
}

func TestP175ThereAndBack(t *testing.T) {
	for _, c := range checkpoints(t, 600) {
		wantOpen(t, c.graph, c.m, c.pieces, c.state)
		wantBytes(t, c.m, manifestForm(c.m))
		m, e := manifest.Parse(manifestForm(c.m))
		if e != api.OK || !manifest.Same(m, c.m) {
			t.Fatalf("Parse of Bytes = %v, %d; want %v", brief(m), e, brief(c.m))
		}
		wantOpen(t, c.graph, m, c.pieces, c.state)
	}
	for _, m := range goodManifests() {
		b, e := manifest.Bytes(m)
		back, h := manifest.Parse(b)
		if e != api.OK || h != api.OK || !manifest.Same(back, m) {
			t.Errorf("Parse of Bytes(%v) = %v: %d, %d", brief(m), brief(back), e, h)
		}
	}
}

// TestP175GoesOn: a flow that goes from checkpoint to checkpoint has the records of one that stays, and each manifest tells those since the last one.
func TestP175GoesOn(t *testing.T) {
	r := rand.New(rand.NewSource(175))
	for range 40 {
		g := grown(r)
		stays, _ := flow.New(g, 3)
		moves := stays.Clone()
		var told []api.Record
		for id := range int64(6) {
			for part := range g.Parts {
				l := count(r.Intn(20))
				stays.Feed(part, l...)
				moves.Feed(part, l...)
			}
			moves.Barrier(id + 1)
			moves.Drain()
			stays.Drain()
			s, ok := moves.Snap()
			if !ok {
				t.Fatal("no snap")
			}
			var out []api.Record
			for _, x := range moves.Out(moves.Base()) {
				out = append(out, x)
			}
			c := checkpointOf(t, g, s, moves.Base(), out, 32)
			told = append(told, manifest.Txn(c.m, 9).Records...)
			back, e := manifest.Open(graph.Clone(g), c.m, c.pieces...)
			if e != api.OK {
				t.Fatalf("Open: %d", e)
			}
			moves, e = flow.From(g, 3, back)
			if e != api.OK || moves.Count() != stays.Count() || !slices.Equal(moves.Fed(), c.m.Vector) {
				t.Fatalf("flow.From: %d", e)
			}
		}
		var want []api.Record
		for _, x := range stays.Out(0) {
			want = append(want, x)
		}
		if !slices.Equal(told, want) {
			t.Fatalf("the manifests tell %v; want %v", told, want)
		}
	}
}

// fails: it does not open with these pieces, and all else is as it was.
func (c checkpoint) fails(t *testing.T, want api.Errno, pieces ...[]byte) {
	t.Helper()
	wantOpenRefused(t, want, c.graph, c.m, pieces...)
}

func TestP176LeftOutOrDoubled(t *testing.T) {
	for _, c := range checkpoints(t, 60) {
		for i := range c.pieces {
			c.fails(t, api.ErrSnap, slices.Delete(slices.Clone(c.pieces), i, i+1)...)
			for _, at := range []int{0, i, i + 1, len(c.pieces)} {
				c.fails(t, api.ErrSnap, slices.Insert(slices.Clone(c.pieces), at, c.pieces[i])...)
			}
		}
		c.fails(t, api.ErrSnap)
		c.fails(t, api.ErrSnap, append(slices.Clone(c.pieces), c.pieces...)...)
		if t.Failed() {
			return
		}
	}
}

func TestP176InThePlaceOfAnother(t *testing.T) {
	for _, c := range checkpoints(t, 60) {
		for i, piece := range c.pieces {
			for j := max(0, i-20); j < min(len(c.pieces), i+20); j++ {
				other := slices.Clone(c.pieces)
				other[j] = piece
				if c.m.Pieces[i] == c.m.Pieces[j] {
					wantOpen(t, c.graph, c.m, other, c.state)
				} else {
					c.fails(t, api.ErrSnap, other...)
				}
				// The two change places.
				other[i] = c.pieces[j]
				if c.m.Pieces[i] == c.m.Pieces[j] {
					wantOpen(t, c.graph, c.m, other, c.state)
				} else {
					c.fails(t, api.ErrSnap, other...)
				}
			}
			// One that is shorter, or longer, or none at all.
			for _, wrong := range [][]byte{nil, piece[1:], piece[:len(piece)-1], append(slices.Clone(piece), 0), append([]byte{0}, piece...)} {
				other := slices.Clone(c.pieces)
				other[i] = wrong
				c.fails(t, api.ErrSnap, other...)
			}
		}
		if t.Failed() {
			return
		}
	}
}

// TestP176PiecesOfAnotherState: those of a state that differs a little, each in turn, and all of them.
func TestP176PiecesOfAnotherState(t *testing.T) {
	for _, n := range []int{1, 3, 16, 4096} {
		c := checkpointOf(t, wide(), full(), 70_000, nil, n)
		s := full()
		s.Tasks[8].State.Keys[0].Acc++
		s.Tasks[5].Buffers[0][0].Val--
		s.Tasks[6].State.Keys[1].Acc ^= 1
		d := checkpointOf(t, wide(), s, 70_000, nil, n)
		if bytes.Equal(slices.Concat(c.pieces...), slices.Concat(d.pieces...)) {
			t.Fatal("the same bytes")
		}
		c.fails(t, api.ErrSnap, d.pieces...)
		d.fails(t, api.ErrSnap, c.pieces...)
		for i := range c.pieces {
			if i >= len(d.pieces) || bytes.Equal(c.pieces[i], d.pieces[i]) {
				continue
			}
			other := slices.Clone(c.pieces)
			other[i] = d.pieces[i]
			c.fails(t, api.ErrSnap, other...)
		}
	}
}

// turned are pieces with bits turned of all their bytes: those of the pattern, from that bit on, of a byte the lowest one first.
func turned(pieces [][]byte, from int, pattern uint32) [][]byte {
	b := slices.Concat(pieces...)
	for i := range 32 {
		if bit := from + i; pattern>>i&1 == 1 && bit < 8*len(b) {
			b[bit/8] ^= 1 << (bit % 8)
		}
	}
	var l [][]byte
	for _, piece := range pieces {
		l = append(l, b[:len(piece)])
		b = b[len(piece):]
	}
	return l
}

func TestP176BitsTurned(t *testing.T) {
	r := rand.New(rand.NewSource(176))
	patterns := []uint32{1, 3, 1<<31 | 1, 1<<32 - 1, 0x82F63B78 | 1, 0x105EC76F, 0x1EDC6F41}
	for _, c := range checkpoints(t, 40) {
		bits := 8 * len(slices.Concat(c.pieces...))
		// Of a long one, at some places.
		for from := 0; from < bits; from += 1 + r.Intn(1+bits/1000) {
			for _, pattern := range []uint32{1, patterns[r.Intn(len(patterns))], r.Uint32() | 1} {
				c.fails(t, api.ErrSnap, turned(c.pieces, from, pattern)...)
			}
		}
		if t.Failed() {
			return
		}
	}
	// Within one piece, as long as may be.
	c := checkpointOf(t, folded(api.FnSum), keysLong(t, api.MaxSnap), 0, nil, 4096)
	for range 60 {
		c.fails(t, api.ErrSnap, turned(c.pieces, r.Intn(8*api.MaxSnap), r.Uint32()|1)...)
	}
}

// TestP176OtherGraphs: for a graph with another sum.
func TestP176OtherGraphs(t *testing.T) {
	l := checkpoints(t, 60)
	// All of these have states of one form.
	for fn := api.FnSum; fn <= api.FnLast; fn++ {
		l = append(l, checkpointOf(t, folded(fn), keysOf(3), 0, nil, 4))
	}
	failed := 0
	for _, c := range l {
		for _, d := range l {
			if sumOf(c.graph) == sumOf(d.graph) {
				wantOpen(t, d.graph, c.m, c.pieces, c.state)
			} else {
				failed++
				wantOpenRefused(t, api.ErrManifest, d.graph, c.m, c.pieces...)
			}
		}
	}
	if failed < 1000 {
		t.Errorf("%d other graphs: too few", failed)
	}
}

func FuzzPieces(f *testing.F) {
	f.Add(int64(1), 5, 3, 17, uint32(1))
	f.Add(int64(2), 4096, 0, 0, uint32(0))
	f.Fuzz(func(t *testing.T, seed int64, n, which, from int, pattern uint32) {
		r := rand.New(rand.NewSource(seed))
		g := grown(r)
		s, out := lived(t, r, g)
		want, _, e := makeOf(g, 1, s, 0, out, n)
		m, pieces, h := manifest.Make(g, 1, s, 0, out, n)
		if e != h || !alike(m, want) {
			t.Fatalf("Make = %v, %d; the model says %v, %d", brief(m), h, brief(want), e)
		}
		if e != api.OK {
			return
		}
		c := checkpoint{g, s, m, pieces}
		wantOpen(t, g, m, pieces, s)
		wantBytes(t, m, manifestForm(m))
		i := int(uint(which) % uint(len(pieces)))
		c.fails(t, api.ErrSnap, slices.Delete(slices.Clone(pieces), i, i+1)...)
		c.fails(t, api.ErrSnap, slices.Insert(slices.Clone(pieces), i, pieces[i])...)
		b := slices.Concat(pieces...)
		other := turned(pieces, int(uint(from)%uint(8*len(b))), pattern)
		if bytes.Equal(b, slices.Concat(other...)) {
			return
		}
		c.fails(t, api.ErrSnap, other...)
	})
}

// TestP176WholeOrNotAtAll: what opens is the state that was made, whatever is left out, doubled, moved or turned.
func TestP176WholeOrNotAtAll(t *testing.T) {
	r := rand.New(rand.NewSource(6))
	opened := 0
	for _, c := range checkpoints(t, 300) {
		for range 30 {
			pieces := slices.Clone(c.pieces)
			for range 1 + r.Intn(3) {
				if len(pieces) == 0 {
					break
				}
				i, j := r.Intn(len(pieces)), r.Intn(len(pieces))
				switch r.Intn(4) {
				case 0:
					pieces = slices.Delete(pieces, i, i+1)
				case 1:
					pieces = slices.Insert(pieces, i, pieces[j])
				case 2:
					pieces[i], pieces[j] = pieces[j], pieces[i]
				case 3:
					pieces = turned(pieces, r.Intn(8*len(slices.Concat(pieces...))), r.Uint32())
				}
			}
			s, e := manifest.Open(c.graph, c.m, pieces...)
			if e == api.OK {
				opened++
				if !snap.Same(s, c.state) {
					t.Fatalf("Open = %v; want %v", s, c.state)
				}
			}
		}
	}
	if opened < 50 {
		t.Errorf("%d opened: too few", opened)
	}
}
