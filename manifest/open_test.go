package manifest_test

import (
	"math/rand"
	"slices"
	"testing"

	"pontoon/api"
	"pontoon/frame"
	"pontoon/graph"
	"pontoon/manifest"
	"pontoon/snap"
)

// shipped is a manifest of full, and its pieces.
func shipped(t *testing.T) (api.Manifest, [][]byte) {
	return wantMade(t, wide(), 7, full(), 69_997, count(3), 16)
}

// parted is m with the pieces of b in the place of its own ones.
func parted(m api.Manifest, b []byte) (api.Manifest, [][]byte) {
	pieces, e := snap.Split(b, 16)
	if e != api.OK {
		panic("too long")
	}
	m.Pieces = snap.Pieces(pieces...)
	return m, pieces
}

func sumOf(g api.Graph) uint32 {
	b, e := graph.Bytes(g)
	if e != api.OK {
		panic("no graph")
	}
	return frame.Sum(b)
}

func TestP174Open(t *testing.T) {
	m, pieces := shipped(t)
	wantOpen(t, wide(), m, pieces, full())
	// Neither the epoch nor the records, nor from where on they are, are the state's.
	m.Epoch, m.Begin, m.Records = 1, 70_000, nil
	wantOpen(t, wide(), m, pieces, full())
	for _, g := range []api.Graph{short(), folded(api.FnLast), wide(), four()} {
		s := at(g, 1, 0)
		m, pieces := wantMade(t, g, 1, s, 0, nil, 4096)
		wantOpen(t, g, m, pieces, s)
	}
}

func TestP174OpenOfBadManifests(t *testing.T) {
	m, pieces := shipped(t)
	for _, bad := range badManifests() {
		wantOpenRefused(t, api.ErrManifest, wide(), bad)
		wantOpenRefused(t, api.ErrManifest, wide(), bad, pieces...)
		// It comes ahead of the graph's error, and the pieces'.
		wantOpenRefused(t, api.ErrManifest, api.Graph{}, bad, pieces[1:]...)
	}
	for _, change := range []func(m *api.Manifest){
		func(m *api.Manifest) { m.Epoch = 0 },
		func(m *api.Manifest) { m.Epoch = end + 1 },
		func(m *api.Manifest) { m.Begin++ },
		func(m *api.Manifest) { m.Begin, m.Records = -1, nil },
		func(m *api.Manifest) { m.Records = m.Records[1:] },
		func(m *api.Manifest) { m.Records = append(m.Records, rec(1, 1)) },
		func(m *api.Manifest) { m.Pieces[3].Len = 0 },
	} {
		bad := copyOf(m)
		change(&bad)
		wantOpenRefused(t, api.ErrManifest, wide(), bad, pieces...)
		wantOpenRefused(t, api.ErrManifest, api.Graph{}, bad, pieces...)
	}
}

func TestP174OpenOfBadGraphs(t *testing.T) {
	m, pieces := shipped(t)
	for want, l := range badGraphs(t) {
		for _, g := range l {
			wantOpenRefused(t, want, g, m, pieces...)
			// It comes ahead of the pieces' error.
			wantOpenRefused(t, want, g, m)
			for _, sum := range []uint32{0, 1<<32 - 1, frame.Sum(nil)} {
				other := m
				other.Graph = sum
				wantOpenRefused(t, want, g, other, pieces...)
			}
		}
	}
}

func TestP174OpenOfOtherGraphs(t *testing.T) {
	m, pieces := shipped(t)
	other := wide()
	other.Ops[6].Fn = api.FnCount
	for _, g := range []api.Graph{short(), folded(api.FnSum), four(), other} {
		wantOpenRefused(t, api.ErrManifest, g, m, pieces...)
		// It comes ahead of the pieces' error.
		wantOpenRefused(t, api.ErrManifest, g, m)
		wantOpenRefused(t, api.ErrManifest, g, m, pieces[1:]...)
	}
	for bit := range 32 {
		turned := m
		turned.Graph ^= 1 << bit
		wantOpenRefused(t, api.ErrManifest, wide(), turned, pieces...)
		wantOpenRefused(t, api.ErrManifest, wide(), turned, pieces[1:]...)
	}
	// The sum alone says which graph it is.
	m.Graph = sumOf(other)
	wantOpen(t, other, m, pieces, full())
}

func TestP174OpenOfOtherPieces(t *testing.T) {
	m, pieces := shipped(t)
	wantOpenRefused(t, api.ErrSnap, wide(), m)
	wantOpenRefused(t, api.ErrSnap, wide(), m, nil)
	wantOpenRefused(t, api.ErrSnap, wide(), m, append(slices.Clone(pieces), nil)...)
	wantOpenRefused(t, api.ErrSnap, wide(), m, append(slices.Clone(pieces), []byte{0})...)
	wantOpenRefused(t, api.ErrSnap, wide(), m, slices.Concat(pieces...))
	swapped := slices.Clone(pieces)
	swapped[0], swapped[1] = swapped[1], swapped[0]
	wantOpenRefused(t, api.ErrSnap, wide(), m, swapped...)
	for i := range m.Pieces {
		for _, change := range []api.Piece{{Len: 1}, {Len: -1}, {Sum: 1}, {Sum: 1 << 31}} {
			other := copyOf(m)
			other.Pieces[i].Len += change.Len
			other.Pieces[i].Sum ^= change.Sum
			wantOpenRefused(t, api.ErrSnap, wide(), other, pieces...)
		}
	}
	m.Pieces = m.Pieces[1:]
	wantOpenRefused(t, api.ErrSnap, wide(), m, pieces...)
}

// TestP174OpenOfNoPieces: a manifest may have none, but no state has no bytes.
func TestP174OpenOfNoPieces(t *testing.T) {
	m, pieces := shipped(t)
	for _, none := range [][]api.Piece{nil, {}} {
		m.Pieces = none
		wantCheck(t, m, api.OK)
		wantOpenRefused(t, api.ErrShort, wide(), m)
		wantOpenRefused(t, api.ErrShort, wide(), m, [][]byte{}...)
		wantOpenRefused(t, api.ErrSnap, wide(), m, nil)
		wantOpenRefused(t, api.ErrSnap, wide(), m, pieces...)
	}
}

// TestP174OpenOfNoState: the pieces are those of the manifest, but no state's.
func TestP174OpenOfNoState(t *testing.T) {
	m, _ := shipped(t)
	form := stateForm(full())
	for _, x := range []struct {
		bytes []byte
		want  api.Errno
	}{
		{form[:len(form)-1], api.ErrShort},
		{form[:1], api.ErrShort},
		{append(slices.Clone(form), 0), api.ErrExtra},
		{append([]byte{128}, form...), api.ErrShape},
		{make([]byte, 5), api.ErrExtra},
		{stateForm(nothing(short())), api.ErrState},
		{stateForm(api.FlowState{Id: m.Id, Vector: m.Vector, Out: m.Out}), api.ErrState},
	} {
		other, pieces := parted(m, x.bytes)
		wantOpenRefused(t, x.want, wide(), other, pieces...)
		// It comes ahead of another Id, Vector and Out.
		other.Id, other.Vector, other.Out, other.Begin = 1, []int64{9}, 3, 0
		wantOpenRefused(t, x.want, wide(), other, pieces...)
		// Pieces that do not fit come ahead of it.
		wantOpenRefused(t, api.ErrSnap, wide(), other, pieces[1:]...)
	}
	for _, s := range badStates() {
		other, pieces := parted(m, stateForm(s))
		wantOpenRefused(t, api.ErrState, wide(), other, pieces...)
	}
}

// TestP174OpenOfAnotherState: the manifest tells another Id, Vector or Out than its pieces.
func TestP174OpenOfAnotherState(t *testing.T) {
	m, pieces := shipped(t)
	for _, change := range []func(m *api.Manifest){
		func(m *api.Manifest) { m.Id-- },
		func(m *api.Manifest) { m.Id = 1 },
		func(m *api.Manifest) { m.Vector[0]++ },
		func(m *api.Manifest) { m.Vector[1]-- },
		func(m *api.Manifest) { slices.Reverse(m.Vector) },
		func(m *api.Manifest) { m.Vector = m.Vector[:1] },
		func(m *api.Manifest) { m.Vector = append(m.Vector, 0) },
		func(m *api.Manifest) { m.Out, m.Begin = m.Out+1, m.Begin+1 },
		func(m *api.Manifest) { m.Out, m.Begin = m.Out-1, m.Begin-1 },
		func(m *api.Manifest) { m.Out, m.Records = m.Begin, nil },
		func(m *api.Manifest) { m.Out, m.Records = m.Out+1, count(4) },
	} {
		other := copyOf(m)
		change(&other)
		wantCheck(t, other, api.OK)
		wantOpenRefused(t, api.ErrManifest, wide(), other, pieces...)
	}
	for _, change := range []func(s *api.FlowState){
		func(s *api.FlowState) { s.Id-- },
		func(s *api.FlowState) { s.Id = 0 },
		func(s *api.FlowState) { s.Vector[0]++ },
		func(s *api.FlowState) { s.Vector[1]-- },
		func(s *api.FlowState) { s.Out++ },
		func(s *api.FlowState) { s.Out = 0 },
	} {
		s := full()
		change(&s)
		other, pieces := parted(m, stateForm(s))
		wantOpenRefused(t, api.ErrManifest, wide(), other, pieces...)
	}
	// What the operators keep is told by the pieces alone.
	s := full()
	s.Tasks[8].State.Keys[0].Acc++
	other, pieces := parted(m, stateForm(s))
	wantOpen(t, wide(), other, pieces, s)
}

// TestP174OpenErrorsInOrder: all sets of faults that go with each other.
func TestP174OpenErrorsInOrder(t *testing.T) {
	for set := range 64 {
		has := func(bit int) bool { return set>>bit&1 == 1 }
		g := wide()
		m, pieces := shipped(t)
		want := api.OK
		if has(5) {
			want, m.Id = api.ErrManifest, m.Id-1
		}
		if has(4) {
			want = api.ErrExtra
			m, pieces = parted(m, append(stateForm(full()), 7))
		}
		if has(3) {
			want, pieces = api.ErrSnap, pieces[1:]
		}
		if has(2) {
			want, m.Graph = api.ErrManifest, m.Graph^1
		}
		if has(1) {
			want, g.Ops[6].Arg = api.ErrField, 0
		}
		if has(0) {
			want, m.Epoch = api.ErrManifest, 0
		}
		if set == 0 {
			wantOpen(t, g, m, pieces, full())
		} else {
			wantOpenRefused(t, want, g, m, pieces...)
		}
	}
}

// TestP174OpenAsModel: with a few things changed by chance.
func TestP174OpenAsModel(t *testing.T) {
	r := rand.New(rand.NewSource(174))
	seen := map[api.Errno]int{}
	for range 3000 {
		g := grown(r)
		s, out := lived(t, r, g)
		m, pieces := wantMade(t, g, 1, s, 0, out, 16+r.Intn(40))
		for range r.Intn(3) {
			switch r.Intn(8) {
			case 0:
				m, pieces = parted(m, damaged(r, slices.Concat(pieces...)))
			case 1:
				pieces = slices.Delete(pieces, 0, 1)
			case 2:
				i := r.Intn(len(m.Pieces))
				m.Pieces[i].Sum ^= 1 << r.Intn(32)
			case 3:
				m.Vector[r.Intn(len(m.Vector))]++
			case 4:
				m.Id += r.Int63n(3) - 1
			case 5:
				m.Graph ^= 1
			case 6:
				g.Ops[r.Intn(len(g.Ops))].Fn++
			case 7:
				m.Out, m.Begin = m.Out+1, m.Begin+r.Int63n(2)
			}
			if len(pieces) == 0 || len(m.Pieces) == 0 {
				break
			}
		}
		want, e := openOf(g, m, pieces)
		seen[e]++
		if e == api.OK {
			wantOpen(t, g, m, pieces, want)
		} else {
			wantOpenRefused(t, e, g, m, pieces...)
		}
		if t.Failed() {
			return
		}
	}
	for _, e := range []api.Errno{api.OK, api.ErrManifest, api.ErrSnap, api.ErrField} {
		if seen[e] < 50 {
			t.Errorf("Open answered %v: too few of %d", seen, e)
		}
	}
}

// TestR1AllThatMayNotBe: no call panics, and all of them end, whatever they are given.
func TestR1AllThatMayNotBe(t *testing.T) {
	graphs := []api.Graph{wide(), short(), {}, of(least), of(most, api.Op{Kind: least, Part: most, Fn: least, Arg: most, In: []api.Edge{{From: least, Port: most}}})}
	states := append(badStates(), full())
	manifests := append(badManifests(), goodManifests()...)
	for _, g := range graphs {
		for _, s := range states {
			for _, n := range []int{least, -1, 0, 1, 16, most} {
				for _, begin := range []int64{least, -1, 0, most} {
					manifest.Make(g, begin, s, begin, count(3), n)
				}
			}
		}
		for _, m := range manifests {
			for _, pieces := range [][][]byte{nil, {nil}, make([][]byte, 600), {{1, 2}, {128}}} {
				manifest.Open(g, m, pieces...)
			}
		}
	}
	for _, m := range manifests {
		manifest.Check(m)
		manifest.Bytes(m)
		manifest.Txn(m, least)
		manifest.Key(m)
		manifest.Clone(m)
		manifest.Same(m, base())
	}
}
