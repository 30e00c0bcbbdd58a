package manifest_test

import (
	"bytes"
	"reflect"
	"runtime"
	"slices"
	"testing"
	"time"

	"pontoon/api"
	"pontoon/graph"
	"pontoon/manifest"
	"pontoon/snap"
)

// fill writes to all of l, also behind its end.
func fill[T any](l []T, x T) {
	for i := range l[:cap(l)] {
		l[:cap(l)][i] = x
	}
}

// scribble writes to all that a manifest has.
func scribble(m api.Manifest) {
	fill(m.Vector, -99)
	fill(m.Records, rec(-99, -99))
	fill(m.Pieces, api.Piece{Len: -99, Sum: 99})
}

// scribbleState writes to all that a state has.
func scribbleState(s api.FlowState) {
	fill(s.Vector, -99)
	for _, k := range s.Tasks {
		fill(k.State.Keys, api.KeyState{Key: -99})
		for _, l := range k.Buffers {
			fill(l, rec(-99, -99))
		}
		fill(k.Buffers, nil)
	}
	fill(s.Tasks, api.TaskState{State: api.OpState{Turn: 99}})
}

// memory is what the lists of a manifest lie in, with room behind their ends.
type memory struct {
	vector  []int64
	records []api.Record
	pieces  []api.Piece
}

// lying is m in such memory.
func lying(m api.Manifest) (api.Manifest, memory) {
	room := memory{
		vector:  append(slices.Clone(m.Vector), 77, 78),
		records: append(slices.Clone(m.Records), rec(77, 78), rec(79, 80)),
		pieces:  append(slices.Clone(m.Pieces), api.Piece{Len: 77, Sum: 78}, api.Piece{}),
	}
	m.Vector, m.Records, m.Pieces = room.vector[:len(m.Vector)], room.records[:len(m.Records)], room.pieces[:len(m.Pieces)]
	return m, room
}

// TestR3ManifestsHandedIn: a manifest is not written to, nor what stands behind its lists, and no answer hangs on what its owner does with it later.
func TestR3ManifestsHandedIn(t *testing.T) {
	made, pieces := shipped(t)
	empty := made
	empty.Vector, empty.Records, empty.Pieces = nil, nil, nil
	for _, from := range append(badManifests(), base(), made, empty) {
		m, room := lying(from)
		_, had := lying(from)
		manifest.Check(m)
		b, _ := manifest.Bytes(m)
		s, e := manifest.Open(wide(), m, pieces...)
		manifest.Open(wide(), m)
		x := manifest.Txn(m, 5)
		manifest.Key(m)
		manifest.Same(m, m)
		manifest.Same(m, base())
		c := manifest.Clone(m)
		if !alike(m, from) || !reflect.DeepEqual(room, had) {
			t.Fatalf("what was handed in is %v now", brief(m))
		}
		scribble(m)
		if b != nil && !bytes.Equal(b, manifestForm(from)) {
			t.Errorf("the bytes are %v now", some(b))
		}
		if e == api.OK && !snap.Same(s, full()) {
			t.Errorf("the state is %v now", s)
		}
		if !slices.Equal(x.Records, from.Records) || !slices.Equal(x.Vector, from.Vector) {
			t.Errorf("the transaction is %v now", x)
		}
		if !alike(c, from) {
			t.Errorf("the clone is %v now", brief(c))
		}
	}
}

// TestR3MakeHandedIn: a graph, a state and records.
func TestR3MakeHandedIn(t *testing.T) {
	wanted, wantedPieces := shipped(t)
	g, s := wide(), full()
	s.Vector = append(s.Vector, 77)[:2]
	room := append(count(3), rec(77, 77), rec(78, 78))
	records := room[:3]
	for _, n := range []int{16, 0, 4096} {
		manifest.Make(g, 7, s, 69_997, records, n)
		manifest.Make(g, 0, s, 69_997, records, n)
		manifest.Make(short(), 7, s, 69_997, records, n)
	}
	m, pieces, e := manifest.Make(g, 7, s, 69_997, records, 16)
	if !graph.Same(g, wide()) || !snap.Same(s, full()) || s.Vector[:3][2] != 77 || !slices.Equal(room, append(count(3), rec(77, 77), rec(78, 78))) {
		t.Errorf("what was handed in is %v, %v, %v now", g, s, room)
	}
	scribbleState(s)
	fill(records, rec(-99, -99))
	fill(g.Ops, api.Op{})
	if e != api.OK || !alike(m, wanted) || !slices.EqualFunc(pieces, wantedPieces, bytes.Equal) {
		t.Errorf("what was made is %v, %d pieces, %d now", brief(m), len(pieces), e)
	}
}

// TestR3MakeOfNoRecords: of a list that is empty now, its owner may have the memory.
func TestR3MakeOfNoRecords(t *testing.T) {
	room := count(3)
	m, _, e := manifest.Make(wide(), 7, full(), 70_000, room[:0], 16)
	_ = append(m.Records, rec(5, 5))
	if e != api.OK || !slices.Equal(room, count(3)) {
		t.Errorf("what was handed in is %v now", room)
	}
	numbers := []int64{1, 2, 3}
	c := manifest.Clone(api.Manifest{Vector: numbers[:0], Records: room[:0]})
	x := manifest.Txn(api.Manifest{Vector: numbers[:0], Records: room[:0]}, 1)
	for _, l := range [][]int64{c.Vector, x.Vector} {
		_ = append(l, 9)
	}
	for _, l := range [][]api.Record{c.Records, x.Records} {
		_ = append(l, rec(9, 9))
	}
	if !slices.Equal(room, count(3)) || !slices.Equal(numbers, []int64{1, 2, 3}) {
		t.Errorf("what was handed in is %v, %v now", room, numbers)
	}
}

func TestR3BytesHandedIn(t *testing.T) {
	form := manifestForm(base())
	for size := range len(form) + 1 {
		room := append(slices.Clone(form), 7, 8, 9)
		m, e := manifest.Parse(room[:size])
		if !bytes.Equal(room, append(slices.Clone(form), 7, 8, 9)) {
			t.Fatalf("what was handed in is %v now", room)
		}
		fill(room, 99)
		if e == api.OK && !alike(m, base()) {
			t.Errorf("the manifest is %v now", m)
		}
	}
}

// TestR3PiecesHandedIn: pieces lie one right behind the other, so that to append to one would write to the next one.
func TestR3PiecesHandedIn(t *testing.T) {
	m, _ := shipped(t)
	form := stateForm(full())
	room := append(slices.Clone(form), 7, 8, 9)
	var pieces [][]byte
	for at := 0; at < len(form); at += 16 {
		pieces = append(pieces, room[at:min(at+16, len(form))])
	}
	list := append(slices.Clone(pieces), []byte{5}, []byte{6})
	s, e := manifest.Open(wide(), m, list[:len(pieces)]...)
	manifest.Open(wide(), m, list...)
	if !bytes.Equal(room, append(slices.Clone(form), 7, 8, 9)) || !slices.EqualFunc(list, append(pieces, []byte{5}, []byte{6}), bytes.Equal) {
		t.Fatalf("what was handed in is %v now", room)
	}
	fill(room, 99)
	fill(list, nil)
	if e != api.OK || !snap.Same(s, full()) {
		t.Errorf("the state is %v, %d now", s, e)
	}
}

// TestR3AnswersApart: who writes to an answer, or to a list of it, changes no other answer, and no other list.
func TestR3AnswersApart(t *testing.T) {
	m, pieces := shipped(t)
	parsed, _ := manifest.Parse(manifestForm(m))
	for _, c := range []api.Manifest{m, parsed, manifest.Clone(m)} {
		want := copyOf(m)
		_ = append(c.Vector, 31)
		_ = append(c.Records, rec(31, 31))
		_ = append(c.Pieces, api.Piece{Len: 31})
		if !alike(c, want) {
			t.Errorf("it is %v now", c)
		}
	}
	for i := range pieces {
		had := slices.Clone(pieces[i+1:])
		for j := range had {
			had[j] = slices.Clone(had[j])
		}
		fill(pieces[i], 99)
		_ = append(pieces[i], make([]byte, 16)...)
		if !slices.EqualFunc(pieces[i+1:], had, bytes.Equal) {
			t.Fatalf("behind the piece %d: %v", i, pieces[i+1:])
		}
	}
	again, more := shipped(t)
	if !alike(again, m) || !bytes.Equal(slices.Concat(more...), stateForm(full())) {
		t.Errorf("another answer of Make is %v, %v now", again, more)
	}
	x, y := manifest.Txn(m, 1), manifest.Txn(m, 1)
	fill(x.Records, rec(9, 9))
	fill(x.Vector, 9)
	if !slices.Equal(y.Records, m.Records) || !slices.Equal(y.Vector, m.Vector) {
		t.Errorf("another answer of Txn is %v now", y)
	}
	b, _ := manifest.Bytes(m)
	c, _ := manifest.Bytes(m)
	fill(b, 99)
	if !bytes.Equal(c, manifestForm(m)) {
		t.Errorf("another answer of Bytes is %v now", c)
	}
	s, _ := manifest.Open(wide(), m, more...)
	other, _ := manifest.Open(wide(), m, more...)
	scribbleState(s)
	if !snap.Same(other, full()) || !bytes.Equal(slices.Concat(more...), stateForm(full())) {
		t.Errorf("another answer of Open is %v now", other)
	}
}

// TestR2ErrorsChangeNothing: beside an error stands nothing else, and the next call answers as if there had been none.
func TestR2ErrorsChangeNothing(t *testing.T) {
	m, pieces := shipped(t)
	for range 3 {
		wantMakeRefused(t, api.ErrManifest, wide(), 0, full(), 70_000, nil, 16)
		wantBytesRefused(t, api.Manifest{})
		wantParseRefused(t, api.ErrShort, nil)
		wantOpenRefused(t, api.ErrSnap, wide(), m, pieces[1:]...)
		again, more := shipped(t)
		if !alike(again, m) || !slices.EqualFunc(more, pieces, bytes.Equal) {
			t.Errorf("Make = %v", again)
		}
		wantBytes(t, m, manifestForm(m))
		wantOpen(t, wide(), m, pieces, full())
	}
}

func TestR4NoLists(t *testing.T) {
	g := short()
	g.Ops[0].In = []api.Edge{}
	s := at(short(), 1, 0)
	for n := range s.Tasks {
		s.Tasks[n] = api.TaskState{State: api.OpState{Keys: []api.KeyState{}}, Buffers: [][]api.Record{}}
	}
	want, wantPieces := wantMade(t, short(), 1, at(short(), 1, 0), 0, nil, 16)
	for _, records := range [][]api.Record{nil, {}, make([]api.Record, 0, 5)} {
		m, pieces, e := manifest.Make(g, 1, s, 0, records, 16)
		if e != api.OK || !alike(m, want) || !slices.EqualFunc(pieces, wantPieces, bytes.Equal) {
			t.Errorf("Make = %v, %v, %d; want %v", m, pieces, e, want)
		}
		m.Records = records
		wantCheck(t, m, api.OK)
		wantBytes(t, m, manifestForm(want))
		wantOpen(t, g, m, pieces, s)
	}
	wantMakeRefused(t, api.ErrPart, api.Graph{Parts: 1, Ops: []api.Op{}}, 1, s, 0, nil, 16)
	wantMakeRefused(t, api.ErrState, g, 1, api.FlowState{Vector: []int64{}, Tasks: []api.TaskState{}}, 0, nil, 16)
	wantCheck(t, but(func(m *api.Manifest) { m.Vector = []int64{} }), api.ErrManifest)
	wantCheck(t, but(func(m *api.Manifest) { m.Records = []api.Record{} }), api.ErrManifest)
	wantCheck(t, but(func(m *api.Manifest) { m.Pieces = []api.Piece{} }), api.OK)
	wantParseRefused(t, api.ErrShort, []byte{})
	m := want
	m.Pieces = []api.Piece{}
	wantOpenRefused(t, api.ErrShort, g, m, [][]byte{}...)
}

// TestR5ZeroStructs: there are no objects here, but manifests, graphs, states and names that nobody filled.
func TestR5ZeroStructs(t *testing.T) {
	wantMakeRefused(t, api.ErrArg, api.Graph{}, 0, api.FlowState{}, 0, nil, 0)
	wantMakeRefused(t, api.ErrState, short(), 0, api.FlowState{}, 0, nil, 0)
	wantCheck(t, api.Manifest{}, api.ErrManifest)
	wantBytesRefused(t, api.Manifest{})
	wantParseRefused(t, api.ErrManifest, manifestForm(api.Manifest{}))
	wantOpenRefused(t, api.ErrManifest, api.Graph{}, api.Manifest{})
	m, _ := shipped(t)
	wantOpenRefused(t, api.ErrArg, api.Graph{}, m)
	if k := manifest.Key(api.Manifest{}); k != key(0, 0) {
		t.Errorf("Key = %v", k)
	}
	wantLess(t, api.TxnKey{}, api.TxnKey{}, false)
	wantSame(t, manifest.Clone(api.Manifest{}), api.Manifest{}, true)
}

// TestR6Again: the same calls answer the same.
func TestR6Again(t *testing.T) {
	m, pieces := shipped(t)
	b, _ := manifest.Bytes(m)
	s, _ := manifest.Open(wide(), m, pieces...)
	for range 20 {
		again, more := shipped(t)
		c, _ := manifest.Bytes(again)
		x, _ := manifest.Open(wide(), again, more...)
		if !reflect.DeepEqual(again, m) || !reflect.DeepEqual(more, pieces) || !bytes.Equal(b, c) || !reflect.DeepEqual(s, x) {
			t.Fatal("another answer")
		}
	}
}

// soon fails a test that has taken longer than what is near-linear may take.
func soon(t *testing.T, begin time.Time) {
	t.Helper()
	if took := time.Since(begin); took > 20*time.Second {
		t.Errorf("it took %v", took)
	}
}

// costs tells how many bytes of memory a call takes.
func costs(call func()) uint64 {
	var before, behind runtime.MemStats
	runtime.ReadMemStats(&before)
	call()
	runtime.ReadMemStats(&behind)
	return behind.TotalAlloc - before.TotalAlloc
}

// TestBoundParse: a number that tells of more than there is costs no memory, and nor does what stands behind an error.
func TestBoundParse(t *testing.T) {
	for _, b := range [][]byte{
		formOf(1, 1, 8192),
		formOf(1, 1, 1, 0, 0, 0, 8192),
		formOf(1, 1, 1, 0, 0, 0, 0, 8192),
		formOf(1, 1, 1, 0, 0, 0, 8192, 5, 5),
	} {
		if n := costs(func() { wantParseRefused(t, api.ErrShort, b) }); n > 1<<14 {
			t.Errorf("%v: %d bytes for what is not there", b, n)
		}
	}
	long := make([]byte, 1<<22)
	if n := costs(func() { wantParseRefused(t, api.ErrExtra, long) }); n > 1<<24 {
		t.Errorf("%d bytes for %d", n, len(long))
	}
}

// TestBoundAll: what is as long as may be, again and again; what took a step for each pair of records, or of pieces, would take hours.
func TestBoundAll(t *testing.T) {
	begin := time.Now()
	g := folded(api.FnSum)
	// Out has one byte more than 0 has.
	s := keysLong(t, api.MaxSnap-1)
	s.Out = 4096
	for range 40 {
		m, pieces, e := manifest.Make(g, 1, s, 0, count(4096), 256)
		b, h := manifest.Bytes(m)
		n, k := manifest.Parse(b)
		x, l := manifest.Open(g, n, pieces...)
		if e != api.OK || h != api.OK || k != api.OK || l != api.OK || !manifest.Same(manifest.Clone(m), n) || !snap.Same(x, s) || len(manifest.Txn(n, 1).Records) != 4096 {
			t.Fatalf("Make %d, Bytes %d, Parse %d, Open %d", e, h, k, l)
		}
	}
	soon(t, begin)
}

// TestBoundTooLong: what is far too long is refused in time.
func TestBoundTooLong(t *testing.T) {
	begin := time.Now()
	numbers, records, pieces := make([]int64, 1<<22), make([]api.Record, 1<<22), make([]api.Piece, 1<<22)
	for range 10 {
		wantMakeRefused(t, api.ErrManifest, short(), 1, at(short(), 1, 1<<22), 0, records, 16)
		for _, m := range []api.Manifest{
			{Epoch: 1, Id: 1, Vector: numbers},
			{Epoch: 1, Id: 1, Vector: numbers[:1], Out: 1 << 22, Records: records},
			{Epoch: 1, Id: 1, Vector: numbers[:1], Pieces: pieces},
		} {
			if manifest.Check(m) != api.ErrManifest {
				t.Fatal("Check takes it")
			}
			if !manifest.Same(m, manifest.Clone(m)) || len(manifest.Txn(m, 1).Records) != len(m.Records) {
				t.Fatal("another clone")
			}
			wantOpenRefused(t, api.ErrManifest, short(), m)
		}
	}
	m, _ := shipped(t)
	wantOpenRefused(t, api.ErrSnap, wide(), m, make([][]byte, 1<<20)...)
	soon(t, begin)
}
