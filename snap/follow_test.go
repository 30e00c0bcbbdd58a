package snap_test

import (
	"math/rand"
	"slices"
	"testing"

	"pontoon/api"
	"pontoon/flow"
	"pontoon/graph"
	"pontoon/snap"
)

// thereAndBack is what Parse tells of Bytes of s; both must be fine.
func thereAndBack(t *testing.T, g api.Graph, s api.FlowState) api.FlowState {
	t.Helper()
	b, e := snap.Bytes(g, s)
	if e != api.OK {
		t.Fatalf("Bytes(%v, %v): %d", g, s, e)
	}
	back, e := snap.Parse(g, b)
	if e != api.OK || !alike(back, s) {
		t.Fatalf("Parse(%v) = %v, %d; want %v", b, back, e, s)
	}
	wantSame(t, back, s, true)
	wantBytes(t, g, back, b)
	return back
}

// snapOf has a flow of g do something, and is what it tells of a barrier.
func snapOf(t *testing.T, r *rand.Rand, g api.Graph) api.FlowState {
	f, e := flow.New(g, 1+r.Intn(5))
	if e != api.OK {
		t.Fatalf("flow.New(%v): %d", g, e)
	}
	for id := range int64(1 + r.Intn(3)) {
		for part := range g.Parts {
			n := r.Intn(40)
			f.Feed(part, random(r, 2*n).records(n)...)
		}
		f.Barrier(1 + id*int64(1+r.Intn(100)))
		f.Drain()
	}
	s, ok := f.Snap()
	if !ok {
		t.Fatal("no snap")
	}
	return s
}

func TestP123ThereAndBack(t *testing.T) {
	for _, g := range []api.Graph{short(), two(), folded(), wide()} {
		thereAndBack(t, g, nothing(g))
	}
	thereAndBack(t, wide(), full())
	thereAndBack(t, folded(), keysLong(t, api.MaxSnap))
	thereAndBack(t, two(), recordsLong(t, api.MaxSnap))
	r := rand.New(rand.NewSource(123))
	for range 500 {
		g := random(r, 60).graph()
		thereAndBack(t, g, snapOf(t, r, g))
	}
}

// TestP123EachNumber: each number that a state may have, in each place that may have it.
func TestP123EachNumber(t *testing.T) {
	for bits := range 64 {
		for _, n := range []int64{1 << bits, 1<<bits - 1, -1 << bits, -1<<bits - 1, 1<<bits + 1} {
			s := full()
			s.Tasks[5].Buffers[2][1] = rec(n, -n)
			s.Tasks[5].Buffers[3][0] = rec(-n, n)
			s.Tasks[6].State.Keys = []api.KeyState{{Key: n, Count: 2, Acc: -n}}
			s.Tasks[8].State.Keys = []api.KeyState{{Key: -n, Count: 1, Acc: n}}
			if n >= 0 && n <= api.MaxNum {
				s.Id, s.Out, s.Vector[0], s.Vector[1] = n, api.MaxNum-n, n, api.MaxNum-n
				s.Tasks[8].State.Keys[0].Count = max(n, 1)
			}
			thereAndBack(t, wide(), s)
		}
	}
	for turn := range 4 {
		s := full()
		s.Tasks[5].State.Turn = turn
		thereAndBack(t, wide(), s)
	}
}

// TestP123OneForm: what Parse takes has just those bytes: whatever is changed in them is refused, or is another state.
func TestP123OneForm(t *testing.T) {
	form := stateForm(full())
	taken := 0
	for at := range form {
		for c := range 256 {
			b := slices.Clone(form)
			b[at] = byte(c)
			s, e := snap.Parse(wide(), b)
			if e != api.OK {
				continue
			}
			taken++
			wantBytes(t, wide(), s, b)
			wantSame(t, s, full(), b[at] == form[at])
		}
	}
	if taken < 1000 {
		t.Errorf("%d taken: too few", taken)
	}
}

// pair is a flow of a state, and one of what was parsed.
type pair struct {
	*testing.T
	one, other *flow.Flow
}

func pairOf(t *testing.T, g api.Graph, room int, s, back api.FlowState) pair {
	one, e := flow.From(g, room, s)
	other, f := flow.From(g, room, back)
	if e != api.OK || f != api.OK {
		t.Fatalf("flow.From: %d, %d", e, f)
	}
	return pair{t, one, other}
}

// check holds all that can be seen of both against each other.
func (p pair) check() {
	p.Helper()
	if !slices.Equal(p.one.Fed(), p.other.Fed()) || p.one.Base() != p.other.Base() || p.one.Count() != p.other.Count() || p.one.Passed() != p.other.Passed() {
		p.Fatalf("Fed %v, %v, Base %d, %d, Count %d, %d, Passed %d, %d", p.one.Fed(), p.other.Fed(), p.one.Base(), p.other.Base(), p.one.Count(), p.other.Count(), p.one.Passed(), p.other.Passed())
	}
	s, is := p.one.Snap()
	x, ok := p.other.Snap()
	if is != ok || !alike(s, x) {
		p.Fatalf("Snap = %v, %v; the other one's %v, %v", s, is, x, ok)
	}
}

func (p pair) checkOut() {
	p.Helper()
	if l, k := told(p.one), told(p.other); !slices.Equal(l, k) {
		p.Fatalf("%v came out; of the other one %v", l, k)
	}
}

func told(f *flow.Flow) []api.Record {
	var l []api.Record
	for place, r := range f.Out(0) {
		l = append(l, rec(place, 0), r)
	}
	return l
}

func (p pair) step(op int) {
	p.Helper()
	if a, b := p.one.Step(op), p.other.Step(op); a != b {
		p.Fatalf("Step(%d) = %v; the other one's %v", op, a, b)
	}
	p.check()
}

// goOn feeds and steps both alike, in whatever order chance says.
func (p pair) goOn(r *rand.Rand, g api.Graph) {
	p.check()
	for range 60 {
		switch r.Intn(6) {
		case 0:
			part, l := r.Intn(g.Parts), random(r, 12).records(6)
			if a, b := p.one.Feed(part, l...), p.other.Feed(part, l...); a != b {
				p.Fatalf("Feed = %d; the other one's %d", a, b)
			}
		case 1:
			id := p.one.Passed() + int64(r.Intn(3))
			if a, b := p.one.Barrier(id), p.other.Barrier(id); a != b {
				p.Fatalf("Barrier(%d) = %d; the other one's %d", id, a, b)
			}
		default:
			for range r.Intn(20) {
				p.step(r.Intn(len(g.Ops)))
			}
		}
		p.check()
	}
	if a, b := p.one.Drain(), p.other.Drain(); a != b {
		p.Fatalf("Drain = %d; the other one's %d", a, b)
	}
	p.check()
	p.checkOut()
}

func TestP125ItGoesOn(t *testing.T) {
	r := rand.New(rand.NewSource(125))
	pairOf(t, wide(), 2, full(), thereAndBack(t, wide(), full())).goOn(r, wide())
	out := 0
	for range 200 {
		g := random(r, 60).graph()
		s := snapOf(t, r, g)
		p := pairOf(t, g, 1+r.Intn(4), s, thereAndBack(t, g, s))
		p.goOn(r, g)
		out += len(told(p.other))
		// And so from barrier to barrier.
		if next, ok := p.one.Snap(); ok {
			pairOf(t, g, api.MaxQueue, next, thereAndBack(t, g, next)).goOn(r, g)
		}
	}
	if out < 1000 {
		t.Errorf("%d came out: too few", out)
	}
}

// TestP125FromPieces: a flow that is moved piece by piece comes to what one that stays comes to.
func TestP125FromPieces(t *testing.T) {
	g := wide()
	stays, _ := flow.New(g, 3)
	moves := stays.Clone()
	var behind []api.Record // what came out of those that were left behind
	for id := range int64(20) {
		for part := range g.Parts {
			stays.Feed(part, count(7+part)...)
			moves.Feed(part, count(7+part)...)
		}
		moves.Barrier(id + 1)
		stays.Drain()
		moves.Drain()
		behind = append(behind, told(moves)...)
		s, ok := moves.Snap()
		if !ok {
			t.Fatal("no snap")
		}
		b, e := snap.Bytes(g, s)
		l, f := snap.Split(b, 16)
		joined, h := snap.Join(snap.Pieces(l...), l...)
		back, k := snap.Parse(graph.Clone(g), joined)
		if e != api.OK || f != api.OK || h != api.OK || k != api.OK {
			t.Fatalf("Bytes %d, Split %d, Join %d, Parse %d", e, f, h, k)
		}
		moves, e = flow.From(g, 3, back)
		if e != api.OK || moves.Count() != stays.Count() || !slices.Equal(moves.Fed(), stays.Fed()) {
			t.Fatalf("flow.From: %d", e)
		}
	}
	if !slices.Equal(behind, told(stays)) || len(behind) == 0 {
		t.Errorf("%v came out; want %v", behind, told(stays))
	}
}
