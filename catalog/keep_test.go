package catalog_test

import (
	"bytes"
	"reflect"
	"runtime"
	"slices"
	"testing"
	"time"

	"pontoon/api"
	"pontoon/catalog"
	"pontoon/graph"
	"pontoon/manifest"
	"pontoon/snap"
	"pontoon/store"
)

// spoil writes to all of l, also behind its end.
func spoil[T any](l []T, x T) {
	for i := range l[:cap(l)] {
		l[:cap(l)][i] = x
	}
}

func spoilManifest(m api.Manifest) {
	spoil(m.Vector, -99)
	spoil(m.Records, api.Record{Key: -99, Val: -99})
	spoil(m.Pieces, api.Piece{Len: -99, Sum: 99})
}

func spoilState(s api.FlowState) {
	spoil(s.Vector, -99)
	for _, k := range s.Tasks {
		spoil(k.State.Keys, api.KeyState{Key: -99})
		for _, l := range k.Buffers {
			spoil(l, api.Record{Key: -99})
		}
		spoil(k.Buffers, nil)
	}
	spoil(s.Tasks, api.TaskState{State: api.OpState{Turn: 99}})
}

func spoilPieces(l [][]byte) {
	for _, b := range l {
		spoil(b, 99)
	}
	spoil(l, nil)
}

// TestR3GraphHandedIn: it is not written to, and what its owner does with it later is nothing to the catalog.
func TestR3GraphHandedIn(t *testing.T) {
	g := two()
	s := newStore(t, maxRoom, nil)
	c, e := catalog.Open(s, g, 3)
	want(t, "Open", e, api.OK)
	if !graph.Same(g, two()) {
		t.Fatalf("the graph is %v now", g)
	}
	for _, o := range g.Ops {
		spoil(o.In, api.Edge{From: 77})
	}
	spoil(g.Ops, api.Op{Kind: 99})
	p := pointOf(t, 1, 1, 3, 4)
	publish(t, c, p)
	wantCatalog(t, "another graph's owner", c, p)
}

// TestR3HandedIn: manifests, pieces and vectors are not written to, nor what stands behind them, and are not kept.
func TestR3HandedIn(t *testing.T) {
	p := pointOf(t, 1, 1, 3, 4)
	s := newStore(t, maxRoom, nil)
	c := open(t, s, 3)
	m := manifest.Clone(p.m)
	m.Vector = append(m.Vector, 77)[:len(m.Vector)]
	m.Records = append(m.Records, api.Record{Key: 77})[:len(m.Records)]
	m.Pieces = append(m.Pieces, api.Piece{Len: 77})[:len(m.Pieces)]
	want(t, "Begin", c.Begin(m), api.OK)
	want(t, "Begin again", c.Begin(m), api.OK)
	want(t, "Put", c.Put(p.key(), 0, p.pieces[0]), api.OK)
	if !sameManifest(m, p.m) || m.Vector[:3][2] != 77 || m.Records[:4][3].Key != 77 || m.Pieces[:len(m.Pieces)+1][len(m.Pieces)].Len != 77 {
		t.Fatalf("the manifest is %v now", m)
	}
	spoilManifest(m)
	wantNothing(t, "Begin of what it was", s, api.OK, func() api.Errno { return c.Begin(p.m) })
	for n, b := range p.pieces {
		if n == 0 {
			continue
		}
		had := append(slices.Clone(b), 7, 8, 9)
		room := slices.Clone(had)
		want(t, "Put", c.Put(p.key(), n, room[:len(b)]), api.OK)
		if !bytes.Equal(room, had) {
			t.Fatalf("the piece is %v now", room)
		}
		spoil(room, 99)
	}
	want(t, "Publish", c.Publish(p.key()), api.OK)
	vector := []int64{3, 4, 77}
	c.Above(vector[:2])
	if !slices.Equal(vector, []int64{3, 4, 77}) {
		t.Errorf("the vector is %v now", vector)
	}
	wantCatalog(t, "spoilt", c, p)
	wantFiles(t, "spoilt", s, p.published(t))
}

// TestR3Answers: whoever writes to an answer changes nothing of the catalog's, and no other answer, nor another list of it.
func TestR3Answers(t *testing.T) {
	l, p := several(t)
	s, c := severalOpen(t, len(p.pieces))
	had := tell(t, s)
	for range 3 {
		for _, x := range l {
			m, state, _ := c.Get(x.key())
			pieces, _ := c.Pieces(x.key())
			_, again, _ := c.Get(x.key())
			spoilManifest(m)
			if !snap.Same(state, x.state) {
				t.Fatalf("the state is %v", state)
			}
			spoilState(state)
			if !snap.Same(again, x.state) || !slices.EqualFunc(pieces, x.pieces, bytes.Equal) {
				t.Fatalf("another answer is %v, %v", again, pieces)
			}
			for n, b := range pieces {
				spoil(b, 99)
				if !slices.EqualFunc(pieces[n+1:], x.pieces[n+1:], bytes.Equal) {
					t.Fatalf("the pieces are %v", pieces)
				}
			}
			spoilPieces(pieces)
		}
		m, _ := c.Latest()
		spoilManifest(m)
		all := c.All()
		for range 2 {
			n := 0
			for k, m := range all {
				if k != l[n].key() || !sameManifest(m, l[n].m) {
					t.Fatalf("All tells %v, %v", k, m)
				}
				spoilManifest(m)
				n++
			}
		}
		wantCatalog(t, "spoilt", c, l...)
		wantDisk(t, "spoilt", s, had)
	}
	want(t, "Publish", c.Publish(p.key()), api.OK)
	wantCatalog(t, "spoilt", c, append(l, p)...)
}

// TestR3LongLists: an answer's list has nobody's else behind its end.
func TestR3LongLists(t *testing.T) {
	l, p := several(t)
	_, c := severalOpen(t, len(p.pieces))
	for _, x := range l {
		pieces, _ := c.Pieces(x.key())
		for n := range pieces {
			_ = append(pieces[n], make([]byte, 40)...)
		}
		if !slices.EqualFunc(pieces, x.pieces, bytes.Equal) {
			t.Errorf("the pieces are %v", pieces)
		}
	}
	for _, m := range c.All() {
		_ = append(m.Vector, 5)
		_ = append(m.Records, api.Record{Key: 5})
		_ = append(m.Pieces, api.Piece{Len: 5})
	}
	wantCatalog(t, "appended to", c, l...)
}

// TestR4EmptyLists: graphs, pieces and vectors that are empty, or nil.
func TestR4EmptyLists(t *testing.T) {
	g := two()
	g.Ops[0].In, g.Ops[1].In = []api.Edge{}, []api.Edge{}
	p := pointOf(t, 1, 1, 3, 4)
	s := newStore(t, maxRoom, p.published(t))
	c, e := catalog.Open(s, g, 1)
	want(t, "Open", e, api.OK)
	wantCatalog(t, "empty lists", c, p)
	wantNoCatalog(t, "no operators", s, api.Graph{Parts: 1, Ops: []api.Op{}}, 1, api.ErrPart)
	wantNoCatalog(t, "no operators", s, api.Graph{Parts: 1}, 1, api.ErrPart)
	q := pointOf(t, 2, 2, 5, 6)
	put(t, c, q, 1)
	for _, b := range [][]byte{nil, {}} {
		want(t, "Put", c.Put(q.key(), 1, b), api.ErrSnap)
	}
	for _, vector := range [][]int64{{}, nil} {
		s := newStore(t, maxRoom, p.published(t).and(q.begun(t, 1)))
		n, e := open(t, s, 1).Above(vector)
		if want(t, "Above", e, api.OK); n != 1 {
			t.Errorf("Above takes %d away", n)
		}
		wantFiles(t, "Above", s, nil)
	}
	m := manifest.Clone(q.m)
	m.Vector = []int64{}
	want(t, "Begin", c.Begin(m), api.ErrManifest)
}

// TestR5NoCatalog: nil, and a zero struct.
func TestR5NoCatalog(t *testing.T) {
	p := pointOf(t, 1, 1, 3, 4)
	for _, c := range []*catalog.Catalog{nil, {}} {
		want(t, "Begin", c.Begin(p.m), api.ErrMade)
		want(t, "Begin", c.Begin(api.Manifest{}), api.ErrMade)
		for _, k := range []api.TxnKey{{}, p.key()} {
			want(t, "Put", c.Put(k, 0, p.pieces[0]), api.ErrMade)
			want(t, "Put", c.Put(k, -1, nil), api.ErrMade)
			want(t, "Publish", c.Publish(k), api.ErrMade)
			if n, e := c.Next(k); n != 0 || e != api.ErrMade {
				t.Errorf("Next answers %d, %d", n, e)
			}
			wantUnread(t, "no catalog", c, k, api.ErrMade)
		}
		for k := range c.All() {
			t.Errorf("All tells %v", k)
		}
		if m, is := c.Latest(); is || !reflect.DeepEqual(m, api.Manifest{}) {
			t.Errorf("Latest answers %v, %v", m, is)
		}
		for _, vector := range [][]int64{nil, {3, 4}} {
			if n, e := c.Above(vector); n != 0 || e != api.ErrMade {
				t.Errorf("Above answers %d, %d", n, e)
			}
		}
		if c != nil && !reflect.DeepEqual(*c, catalog.Catalog{}) {
			t.Errorf("it is %v now", *c)
		}
	}
}

// TestR6Again: the same calls answer the same.
func TestR6Again(t *testing.T) {
	l, p := several(t)
	var first disk
	for n := range 10 {
		s, c := severalOpen(t, 1)
		finish(t, c, p, 1)
		c.Above([]int64{5, 9})
		wantCatalog(t, "again", c, l...)
		if n == 0 {
			first = tell(t, s)
		}
		wantDisk(t, "again", s, first)
	}
}

// soon fails a test that has taken longer than what is near-linear may take.
func soon(t *testing.T, begin time.Time) {
	t.Helper()
	if took := time.Since(begin); took > 20*time.Second {
		t.Errorf("it took %v", took)
	}
}

// costs tells how many bytes of memory a call takes.
func costs(call func()) uint64 {
	var before, behind runtime.MemStats
	runtime.ReadMemStats(&before)
	call()
	runtime.ReadMemStats(&behind)
	return behind.TotalAlloc - before.TotalAlloc
}

// manyPoints is a store with as many small checkpoints as it takes files.
func manyPoints(t *testing.T) (*store.Store, []point) {
	t.Helper()
	s := newStore(t, maxRoom, nil)
	var l []point
	for n := range int64(maxFiles / 2) {
		p := pointIn(t, one(), 4096, 1, n+1, n)
		for name, b := range p.published(t) {
			want(t, "Create", s.Create(name), api.OK)
			want(t, "Write", s.Write(name, 0, b), api.OK)
		}
		l = append(l, p)
	}
	return s, l
}

// TestBoundMany: as many files as may be; what took a step for each pair of them, again and again, would take hours.
func TestBoundMany(t *testing.T) {
	s, l := manyPoints(t)
	begin := time.Now()
	for range 10 {
		c, e := catalog.Open(s.Clone(), one(), 8)
		want(t, "Open", e, api.OK)
		for range 100 {
			if got := len(keysOf(t, c, -1)); got != len(l) {
				t.Fatalf("All tells %d", got)
			}
		}
		n, e := c.Above([]int64{1000})
		if want(t, "Above", e, api.OK); n != len(l)-1001 {
			t.Fatalf("Above takes %d away", n)
		}
		p := pointIn(t, one(), 4096, 2, 1, 5)
		publish(t, c, p)
		wantCatalog(t, "Publish", c, append(slices.Clone(l[994:1001]), p)...)
	}
	soon(t, begin)
}

// TestBoundForeign: as many files of others as may be, with names as long as may be.
func TestBoundForeign(t *testing.T) {
	s := newStore(t, maxRoom, nil)
	for n := range maxFiles - 3 {
		name := append([]byte("ck.0"), bytes.Repeat([]byte{'1' + byte(n%9)}, n+2)...)
		want(t, "Create", s.Create(string(append(name, ".1.m"...))), api.OK)
	}
	begin := time.Now()
	for range 5 {
		c := open(t, s, 1)
		p := pointOf(t, 1, 1, 3, 4)
		for range 20 {
			publish(t, c, p)
			c.Above(nil)
		}
	}
	soon(t, begin)
}

// TestBoundLong: a state as long as may be, in pieces as short as may be.
func TestBoundLong(t *testing.T) {
	g := two()
	s := api.FlowState{Id: 1, Vector: []int64{0, 0}, Tasks: make([]api.TaskState, len(g.Ops))}
	s.Tasks[2].Buffers = make([][]api.Record, 2)
	for n := range int64(12000) {
		s.Tasks[3].State.Keys = append(s.Tasks[3].State.Keys, api.KeyState{Key: n, Count: 1, Acc: 1 << 40})
	}
	m, pieces, e := manifest.Make(g, 1, s, 0, nil, 256)
	want(t, "manifest.Make", e, api.OK)
	p := point{m, pieces, s}
	begin := time.Now()
	for range 5 {
		at := newStore(t, maxRoom, nil)
		c := open(t, at, 1)
		want(t, "Begin", c.Begin(p.m), api.OK)
		// A Put takes no more than its piece, however many there are.
		for n, b := range p.pieces {
			if took := costs(func() { c.Put(p.key(), n, b) }); took > 1<<20 {
				t.Fatalf("Put takes %d bytes", took)
			}
		}
		want(t, "Publish", c.Publish(p.key()), api.OK)
		for range 10 {
			wantCatalog(t, "long", c, p)
		}
		wantCatalog(t, "opened", open(t, at, 1), p)
	}
	soon(t, begin)
}

// TestBoundZeros: a store full of what is none, behind a manifest that tells of much.
func TestBoundZeros(t *testing.T) {
	p := pointOf(t, 1, 1, 3, 4).change(func(m *api.Manifest) {
		m.Pieces = slices.Repeat([]api.Piece{{Len: 256, Sum: 7}}, 512)
	})
	f := p.begun(t, 0)
	f["ck.1.1.d"] = make([]byte, maxRoom-len(f["ck.1.1.p"]))
	s := newStore(t, maxRoom, f)
	if took := costs(func() { open(t, s, 1) }); took > 1<<26 {
		t.Errorf("Open takes %d bytes", took)
	}
	wantFiles(t, "zeros", s, p.begun(t, 0))
	empty := files{"ck.1.1.p": f["ck.1.1.p"], "ck.1.1.d": bytes.Repeat(frames(t, nil), 1<<18)}
	s = newStore(t, maxRoom, empty)
	begin := time.Now()
	open(t, s, 1)
	wantFiles(t, "empty frames", s, p.begun(t, 0))
	soon(t, begin)
}
