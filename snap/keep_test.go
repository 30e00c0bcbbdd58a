package snap_test

import (
	"bytes"
	"runtime"
	"slices"
	"testing"
	"time"

	"pontoon/api"
	"pontoon/graph"
	"pontoon/snap"
)

// scribble writes to all that a state has, also behind the ends of its lists.
func scribble(s api.FlowState) {
	for i := range s.Vector[:cap(s.Vector)] {
		s.Vector[:cap(s.Vector)][i] = -99
	}
	for n := range s.Tasks {
		k := &s.Tasks[n]
		for i := range k.State.Keys[:cap(k.State.Keys)] {
			k.State.Keys[:cap(k.State.Keys)][i] = api.KeyState{Key: -99}
		}
		for i, l := range k.Buffers {
			for j := range l[:cap(l)] {
				l[:cap(l)][j] = rec(-99, -99)
			}
			k.Buffers[i] = nil
		}
		*k = api.TaskState{State: api.OpState{Turn: 99}}
	}
}

// fill writes to all of b, also behind its end.
func fill(b []byte) {
	for i := range b[:cap(b)] {
		b[:cap(b)][i] = 99
	}
}

// memory is what the lists of a state lie in, one right behind the other.
type memory struct {
	numbers []int64
	keys    []api.KeyState
	records []api.Record
	tasks   []api.TaskState
}

// lying is a state of wide whose lists have room behind their ends, one right behind the other.
func lying() (api.FlowState, memory) {
	m := memory{
		numbers: []int64{30, 40, 77, 77},
		keys:    []api.KeyState{{Key: 1, Count: 1, Acc: 5}, {Key: 3, Count: 1, Acc: 6}, {Key: 1, Count: 9, Acc: 50}, {Key: 4, Count: 2, Acc: -6}, {Key: 77, Count: 77, Acc: 77}},
		records: append(count(6), rec(77, 77)),
		tasks:   append(nothing(wide()).Tasks, api.TaskState{State: api.OpState{Turn: 77}}),
	}
	m.tasks[5] = api.TaskState{State: api.OpState{Turn: 2}, Buffers: [][]api.Record{m.records[:2], m.records[2:2], m.records[2:5], m.records[5:6]}}
	m.tasks[6].State.Keys = m.keys[:2]
	m.tasks[8].State.Keys = m.keys[2:4]
	return api.FlowState{Id: 4, Vector: m.numbers[:2], Out: 20, Tasks: m.tasks[:10]}, m
}

func (m memory) equal(o memory) bool {
	return slices.Equal(m.numbers, o.numbers) && slices.Equal(m.keys, o.keys) && slices.Equal(m.records, o.records) && alike(api.FlowState{Tasks: m.tasks}, api.FlowState{Tasks: o.tasks})
}

// TestR3StatesHandedIn: neither a graph nor a state is written to, nor what stands behind its lists, whether it is taken or refused.
func TestR3StatesHandedIn(t *testing.T) {
	s, m := lying()
	_, had := lying()
	g := wide()
	other := copyOf(s)
	snap.Bytes(g, s)
	snap.Bytes(short(), s)
	snap.Bytes(api.Graph{}, s)
	snap.Same(s, s)
	snap.Same(s, other)
	snap.Clone(s)
	b, _ := snap.Bytes(g, s)
	snap.Parse(g, b)
	if !m.equal(had) || !alike(s, other) || !graph.Same(g, wide()) {
		t.Errorf("what was handed in is %v, %v, %v now", s, m, g)
	}
	// What is answered does not hang on what its owner does with it later.
	c := snap.Clone(s)
	scribble(s)
	if !bytes.Equal(b, stateForm(other)) || !alike(c, other) {
		t.Errorf("what was answered is %v, %v now", b, c)
	}
}

func TestR3BytesHandedIn(t *testing.T) {
	form := stateForm(full())
	for _, size := range []int{len(form), len(form) - 1, 3, 0} {
		lies := append(slices.Clone(form), 7, 8, 9)
		b := lies[:size]
		s, _ := snap.Parse(wide(), b)
		l, _ := snap.Split(b, 7)
		whole, _ := snap.Split(b, api.MaxPiece)
		known := snap.Pieces(b)
		snap.Fits(known[0], b)
		joined, _ := snap.Join(known, b)
		snap.Join(nil, b)
		if !bytes.Equal(lies, append(slices.Clone(form), 7, 8, 9)) {
			t.Fatalf("what was handed in is %v now", lies)
		}
		fill(b)
		if size == len(form) && !alike(s, full()) {
			t.Errorf("the state is %v now", s)
		}
		if !slices.EqualFunc(l, splitBy(form[:size], 7), bytes.Equal) || !slices.EqualFunc(whole, splitBy(form[:size], api.MaxPiece), bytes.Equal) {
			t.Errorf("the pieces are %v, %v now", l, whole)
		}
		if !bytes.Equal(joined, form[:size]) {
			t.Errorf("what was joined is %v now", joined)
		}
	}
}

func TestR3PiecesHandedIn(t *testing.T) {
	lies := scattered(40)
	// One right behind the other, so that to append to one would write to the next one.
	l := [][]byte{lies[:10], lies[10:10], lies[10:30]}
	list := append(slices.Clone(l), []byte{7})[:3]
	known := append(snap.Pieces(l...), api.Piece{Len: 7, Sum: 7})[:3]
	hadKnown := slices.Clone(known[:4])
	joined, e := snap.Join(known, list...)
	told := snap.Pieces(list...)
	if !bytes.Equal(lies, scattered(40)) || !slices.Equal(known[:4], hadKnown) || !slices.EqualFunc(list[:4], append(slices.Clone(l), []byte{7}), bytes.Equal) {
		t.Errorf("what was handed in is %v, %v, %v now", lies, known, list)
	}
	fill(lies)
	clear(known[:4])
	clear(list[:4])
	if e != api.OK || !bytes.Equal(joined, scattered(40)[:30]) || !slices.Equal(told, hadKnown[:3]) {
		t.Errorf("what was answered is %v, %v now", joined, told)
	}
}

// TestR3AnswersApart: who writes to an answer, or to a list of it, changes no other answer, and no other list.
func TestR3AnswersApart(t *testing.T) {
	form := stateForm(full())
	a, _ := snap.Bytes(wide(), full())
	b, _ := snap.Bytes(wide(), full())
	fill(a)
	if !bytes.Equal(b, form) {
		t.Errorf("another answer of Bytes is %v now", b)
	}
	s, _ := snap.Parse(wide(), form)
	for _, c := range []api.FlowState{snap.Clone(full()), s} {
		_ = append(c.Vector, 31)
		_ = append(c.Tasks, api.TaskState{})
		for _, k := range c.Tasks {
			_ = append(k.State.Keys, api.KeyState{Key: 31})
			_ = append(k.Buffers, count(3))
			for _, l := range k.Buffers {
				_ = append(l, rec(31, 31))
			}
		}
		if !alike(c, full()) {
			t.Errorf("it is %v now", c)
		}
	}
	other, _ := snap.Parse(wide(), form)
	scribble(s)
	if !alike(other, full()) {
		t.Errorf("another answer of Parse is %v now", other)
	}
	l, _ := snap.Split(form, 7)
	for i := range l {
		had := splitBy(form, 7)
		fill(l[i])
		_ = append(l[i], 5, 5, 5, 5, 5, 5, 5)
		if !slices.EqualFunc(l[i+1:], had[i+1:], bytes.Equal) {
			t.Fatalf("behind the piece %d: %v", i, l[i+1:])
		}
	}
	if !bytes.Equal(form, stateForm(full())) {
		t.Errorf("what was split is %v now", form)
	}
	piece := scattered(9)
	one, _ := snap.Join(snap.Pieces(piece), piece)
	fill(one)
	if !bytes.Equal(piece, scattered(9)) {
		t.Errorf("what was joined is %v now", piece)
	}
}

func TestR4NoLists(t *testing.T) {
	g := two()
	for _, buffers := range [][][]api.Record{{nil, nil}, {{}, {}}, {nil, {}}, {make([]api.Record, 0, 7), nil}} {
		s := nothing(g)
		s.Tasks[2].Buffers = buffers
		for _, n := range []int{0, 1, 3} {
			s.Tasks[n] = api.TaskState{State: api.OpState{Keys: []api.KeyState{}}, Buffers: [][]api.Record{}}
		}
		wantBytes(t, g, s, stateForm(nothing(g)))
		wantSame(t, s, nothing(g), true)
		wantSame(t, snap.Clone(s), nothing(g), true)
	}
	g.Ops[0].In, g.Ops[1].In = []api.Edge{}, make([]api.Edge, 0, 3)
	wantBytes(t, g, nothing(g), stateForm(nothing(g)))
	wantParse(t, g, stateForm(nothing(g)), nothing(g))
	wantBytesRefused(t, api.ErrState, g, api.FlowState{Vector: []int64{}, Tasks: []api.TaskState{}})
	wantBytesRefused(t, api.ErrPart, api.Graph{Parts: 1, Ops: []api.Op{}}, nothing(g))
	wantParseRefused(t, api.ErrShort, g, []byte{})
	wantSplit(t, []byte{}, 1, nil)
	wantJoin(t, []api.Piece{}, nil, nil)
	wantJoin(t, nil, [][]byte{}, nil)
	wantJoin(t, snap.Pieces(nil, []byte{}), [][]byte{{}, nil}, nil)
	if l := snap.Pieces([][]byte{}...); len(l) != 0 {
		t.Errorf("Pieces of nothing = %v", l)
	}
}

// TestR5ZeroStructs: there are no objects here, but graphs, states and pieces that nobody filled.
func TestR5ZeroStructs(t *testing.T) {
	wantBytesRefused(t, api.ErrArg, api.Graph{}, api.FlowState{})
	wantBytesRefused(t, api.ErrState, short(), api.FlowState{})
	wantParseRefused(t, api.ErrShort, api.Graph{}, nil)
	wantParseRefused(t, api.ErrArg, api.Graph{}, stateForm(api.FlowState{}))
	wantParseRefused(t, api.ErrState, short(), stateForm(api.FlowState{}))
	wantSame(t, snap.Clone(api.FlowState{}), api.FlowState{}, true)
	if s := snap.Clone(api.FlowState{}); !isZero(s) {
		t.Errorf("Clone of nothing = %v", s)
	}
	wantJoin(t, make([]api.Piece, 3), make([][]byte, 3), nil)
	wantJoinRefused(t, api.ErrSnap, make([]api.Piece, 3), nil, []byte{0}, nil)
}

// soon fails a test that has taken longer than what is near-linear may take.
func soon(t *testing.T, begin time.Time) {
	t.Helper()
	if took := time.Since(begin); took > 20*time.Second {
		t.Errorf("it took %v", took)
	}
}

// costs tells how many bytes of memory a call takes.
func costs(call func()) uint64 {
	var before, behind runtime.MemStats
	runtime.ReadMemStats(&before)
	call()
	runtime.ReadMemStats(&behind)
	return behind.TotalAlloc - before.TotalAlloc
}

// TestBoundParse: a number that tells of more than there is costs no memory.
func TestBoundParse(t *testing.T) {
	for _, b := range [][]byte{
		formOf(0, api.MaxSnap),
		formOf(0, 0, 0, api.MaxSnap),
		formOf(0, 0, 0, api.MaxSnap, 0, api.MaxSnap),
		formOf(0, 0, 0, api.MaxSnap, 0, 0, api.MaxSnap),
		formOf(0, 0, 0, api.MaxSnap, 0, 0, api.MaxSnap, api.MaxSnap),
	} {
		if n := costs(func() { wantParseRefused(t, api.ErrShort, short(), b) }); n > 1<<14 {
			t.Errorf("%v: %d bytes for what is not there", b, n)
		}
	}
	// As many lists as may be, with nothing in them.
	tasks := append(formOf(0, 0, 0, 40_000), make([]byte, 120_000)...)
	buffers := append(formOf(0, 0, 0, 1, 0, 0, 120_000), make([]byte, 120_000)...)
	for _, b := range [][]byte{tasks, buffers} {
		if n := costs(func() { wantParseRefused(t, api.ErrState, short(), b) }); n > 1<<26 {
			t.Errorf("%d bytes for %d", n, len(b))
		}
	}
}

// TestBoundAll: what is as long as may be, again and again; what took a step for each pair of numbers, or of pieces, would take hours.
func TestBoundAll(t *testing.T) {
	begin := time.Now()
	keys, records := keysLong(t, api.MaxSnap), recordsLong(t, api.MaxSnap)
	for range 20 {
		for _, x := range []struct {
			g api.Graph
			s api.FlowState
		}{{folded(), keys}, {two(), records}} {
			b, _ := snap.Bytes(x.g, x.s)
			s, e := snap.Parse(x.g, b)
			if e != api.OK || !snap.Same(snap.Clone(s), x.s) {
				t.Fatalf("Parse: %d", e)
			}
			l, _ := snap.Split(b, 1)
			if c, e := snap.Join(snap.Pieces(l...), l...); e != api.OK || !bytes.Equal(c, b) {
				t.Fatalf("Join: %d", e)
			}
		}
	}
	soon(t, begin)
}

// TestBoundBytes: a state far too long is refused in time.
func TestBoundBytes(t *testing.T) {
	begin := time.Now()
	wantBytesRefused(t, api.ErrLong, folded(), keysOf(1<<20))
	wantBytesRefused(t, api.ErrLong, two(), recordsOf(1<<22))
	soon(t, begin)
}
