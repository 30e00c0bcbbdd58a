package catalog_test

import (
	"bytes"
	"fmt"
	"math"
	"reflect"
	"slices"
	"strings"
	"testing"

	"pontoon/api"
	"pontoon/catalog"
	"pontoon/frame"
	"pontoon/graph"
	"pontoon/manifest"
	"pontoon/snap"
	"pontoon/store"
)

const (
	least    = math.MinInt64
	most     = math.MaxInt64
	end      = 9007199254740992 // MaxNum, as the document tells it
	maxRoom  = 4194304          // MaxRoom
	maxFiles = 4096             // MaxFiles
)

func in(l ...int) []api.Edge {
	var edges []api.Edge
	for _, n := range l {
		edges = append(edges, api.Edge{From: n})
	}
	return edges
}

// two is a graph of two partitions: a union, a fold and a sink behind them.
func two() api.Graph {
	return api.Graph{Parts: 2, Ops: []api.Op{
		{Kind: api.OpSource},
		{Kind: api.OpSource, Part: 1},
		{Kind: api.OpUnion, In: in(0, 1)},
		{Kind: api.OpFold, Fn: api.FnSum, In: in(2)},
		{Kind: api.OpSink, In: in(3)},
	}}
}

// other is a graph whose states are states of two, but its sum is another one.
func other() api.Graph {
	g := two()
	g.Ops[3].Fn = api.FnMax
	return g
}

// one is a graph of one partition.
func one() api.Graph {
	return api.Graph{Parts: 1, Ops: []api.Op{{Kind: api.OpSource}, {Kind: api.OpSink, In: in(0)}}}
}

func sumOf(t *testing.T, g api.Graph) uint32 {
	t.Helper()
	b, e := graph.Bytes(g)
	want(t, "graph.Bytes", e, api.OK)
	return frame.Sum(b)
}

// point is a checkpoint with all that belongs to it.
type point struct {
	m      api.Manifest
	pieces [][]byte
	state  api.FlowState
}

func (p point) key() api.TxnKey {
	return api.TxnKey{Epoch: p.m.Epoch, Id: p.m.Id}
}

func (p point) name() string {
	return fmt.Sprintf("ck.%d.%d", p.m.Epoch, p.m.Id)
}

func key(epoch, id int64) api.TxnKey {
	return api.TxnKey{Epoch: epoch, Id: id}
}

// pointOf is a checkpoint of two in pieces of 8 bytes: no two of other numbers are alike.
func pointOf(t *testing.T, epoch, id int64, vector ...int64) point {
	t.Helper()
	return pointIn(t, two(), 8, epoch, id, vector...)
}

func pointIn(t *testing.T, g api.Graph, n int, epoch, id int64, vector ...int64) point {
	t.Helper()
	s := api.FlowState{Id: id, Vector: slices.Clone(vector), Tasks: make([]api.TaskState, len(g.Ops))}
	for _, n := range vector {
		s.Out = min(s.Out+n, end)
	}
	if len(g.Ops) == 5 {
		s.Tasks[2].Buffers = [][]api.Record{{{Key: epoch, Val: id}}, nil}
		s.Tasks[3].State.Keys = []api.KeyState{{Key: -5, Count: 1, Acc: epoch}, {Key: 2, Count: 7, Acc: -id}, {Key: 3, Count: 1 + id%5, Acc: 1 << 40}}
	}
	var records []api.Record
	for n := range min(s.Out, 3) {
		records = append(records, api.Record{Key: n, Val: epoch + id})
	}
	m, pieces, e := manifest.Make(g, epoch, s, s.Out-int64(len(records)), records, n)
	want(t, "manifest.Make", e, api.OK)
	return point{m, pieces, s}
}

// change is p with a change of its manifest.
func (p point) change(f func(m *api.Manifest)) point {
	p.m = manifest.Clone(p.m)
	f(&p.m)
	return p
}

func frames(t *testing.T, loads ...[]byte) []byte {
	t.Helper()
	b, e := frame.Put(nil, loads...)
	want(t, "frame.Put", e, api.OK)
	return b
}

// note is the frame of a manifest.
func note(t *testing.T, m api.Manifest) []byte {
	t.Helper()
	b, e := manifest.Bytes(m)
	want(t, "manifest.Bytes", e, api.OK)
	return frames(t, b)
}

// files are files' bytes by names; nil is a file, too.
type files map[string][]byte

// and is all files of both; those of others stand in the place of f's.
func (f files) and(others ...files) files {
	all := files{}
	for _, l := range append([]files{f}, others...) {
		for name, b := range l {
			all[name] = b
		}
	}
	return all
}

// without is f without those files.
func (f files) without(names ...string) files {
	all := f.and()
	for _, name := range names {
		delete(all, name)
	}
	return all
}

// published are the files of a checkpoint that is published.
func (p point) published(t *testing.T) files {
	t.Helper()
	return files{p.name() + ".d": frames(t, p.pieces...), p.name() + ".m": note(t, p.m)}
}

// begun are the files of one that is begun, with so many pieces.
func (p point) begun(t *testing.T, n int) files {
	t.Helper()
	return files{p.name() + ".d": frames(t, p.pieces[:n]...), p.name() + ".p": note(t, p.m)}
}

// allOf are the files of these, all of them published.
func allOf(t *testing.T, l ...point) files {
	t.Helper()
	f := files{}
	for _, p := range l {
		f = f.and(p.published(t))
	}
	return f
}

// short is what a test tells of x, which may have thousands of bytes.
func short(x any) string {
	text := fmt.Sprintf("%+v", x)
	if len(text) > 600 {
		text = text[:300] + " .. " + text[len(text)-300:]
	}
	return text
}

func want(t *testing.T, what string, got, want api.Errno) {
	t.Helper()
	if got != want {
		t.Fatalf("%s answers %d; want %d", what, got, want)
	}
}

// newStore is a store with these files, all of them sure.
func newStore(t *testing.T, room int, f files) *store.Store {
	t.Helper()
	s, e := store.New(room)
	want(t, "store.New", e, api.OK)
	for name, b := range f {
		want(t, "Create "+name, s.Create(name), api.OK)
		want(t, "Write "+name, s.Write(name, 0, b), api.OK)
		want(t, "Sync "+name, s.Sync(name), api.OK)
	}
	return s
}

// disk is all that there is to be seen of a store: each file's bytes, and which of them are sure.
type disk struct {
	up      bool
	pending int
	left    int
	bytes   map[string]string
	sure    map[string]string
}

// tell answers what there is to be seen of a store, up or down; nothing of it is changed.
func tell(t *testing.T, s *store.Store) disk {
	t.Helper()
	d := disk{up: s.Up(), pending: s.Pending(), left: s.Left(), bytes: map[string]string{}, sure: map[string]string{}}
	open := s
	if !s.Up() {
		open = s.Clone()
		want(t, "Start of a clone that is down", open.Start(), api.OK)
	}
	for name := range s.Names() {
		size, _ := open.Size(name)
		b, e := open.Read(name, 0, size)
		want(t, "Read", e, api.OK)
		sure, e := open.Sure(name)
		want(t, "Sure", e, api.OK)
		d.bytes[name], d.sure[name] = string(b), string(sure)
	}
	return d
}

// wantFiles holds a store against the files that it must have, all of them sure.
func wantFiles(t *testing.T, what string, s *store.Store, f files) {
	t.Helper()
	d := tell(t, s)
	texts := map[string]string{}
	for name, b := range f {
		texts[name] = string(b)
	}
	if d.pending != 0 || !reflect.DeepEqual(d.bytes, texts) || !reflect.DeepEqual(d.sure, texts) {
		t.Fatalf("%s: the store has, with %d pending, %s; want %s", what, d.pending, short(d.bytes), short(texts))
	}
}

// wantDisk holds a store against what was told of it.
func wantDisk(t *testing.T, what string, s *store.Store, had disk) {
	t.Helper()
	if got := tell(t, s); !reflect.DeepEqual(got, had) {
		t.Fatalf("%s: the store is %s; want %s", what, short(got), short(had))
	}
}

func open(t *testing.T, s *store.Store, keep int) *catalog.Catalog {
	t.Helper()
	c, e := catalog.Open(s, two(), keep)
	want(t, "Open", e, api.OK)
	if c == nil {
		t.Fatal("Open answers no catalog")
	}
	return c
}

// crashed is s behind a crash, and up again; s goes its own way.
func crashed(t *testing.T, s *store.Store, keep, torn int) *store.Store {
	t.Helper()
	c := s.Clone()
	want(t, "Crash", c.Crash(keep, torn), api.OK)
	want(t, "Start", c.Start(), api.OK)
	return c
}

func sameManifest(a, b api.Manifest) bool {
	clean := func(m api.Manifest) api.Manifest {
		m.Vector = append([]int64(nil), m.Vector...)
		m.Records = append([]api.Record(nil), m.Records...)
		m.Pieces = append([]api.Piece(nil), m.Pieces...)
		return m
	}
	return reflect.DeepEqual(clean(a), clean(b))
}

// wantNext tells how many pieces of a checkpoint there are.
func wantNext(t *testing.T, what string, c *catalog.Catalog, k api.TxnKey, n int) {
	t.Helper()
	if got, e := c.Next(k); got != n || e != api.OK {
		t.Fatalf("%s: Next(%v) answers %d, %d; want %d", what, k, got, e, n)
	}
}

// wantNone tells that there is no checkpoint of that key.
func wantNone(t *testing.T, what string, c *catalog.Catalog, k api.TxnKey) {
	t.Helper()
	if n, e := c.Next(k); n != 0 || e != api.ErrNone {
		t.Fatalf("%s: Next(%v) answers %d, %d; want ErrNone", what, k, n, e)
	}
	wantUnread(t, what, c, k, api.ErrNone)
}

// wantUnread tells that a checkpoint is not read, for that reason.
func wantUnread(t *testing.T, what string, c *catalog.Catalog, k api.TxnKey, err api.Errno) {
	t.Helper()
	if m, s, e := c.Get(k); e != err || !reflect.DeepEqual(m, api.Manifest{}) || !reflect.DeepEqual(s, api.FlowState{}) {
		t.Fatalf("%s: Get(%v) answers %v, %v, %d; want %d", what, k, m, s, e, err)
	}
	if l, e := c.Pieces(k); e != err || l != nil {
		t.Fatalf("%s: Pieces(%v) answers %v, %d; want %d", what, k, l, e, err)
	}
}

// wantWhole tells that Get and Pieces tell p whole.
func wantWhole(t *testing.T, what string, c *catalog.Catalog, p point) {
	t.Helper()
	m, s, e := c.Get(p.key())
	if e != api.OK || !sameManifest(m, p.m) || !snap.Same(s, p.state) {
		t.Fatalf("%s: Get(%v) answers %v, %v, %d; want %v, %v", what, p.key(), m, s, e, p.m, p.state)
	}
	l, e := c.Pieces(p.key())
	if e != api.OK || !slices.EqualFunc(l, p.pieces, bytes.Equal) {
		t.Fatalf("%s: Pieces(%v) answers %v, %d; want %v", what, p.key(), l, e, p.pieces)
	}
}

// wantCatalog holds all that c tells of those that are published against l, which rises.
func wantCatalog(t *testing.T, what string, c *catalog.Catalog, l ...point) {
	t.Helper()
	n := 0
	for k, m := range c.All() {
		if n == len(l) || k != l[n].key() || !sameManifest(m, l[n].m) {
			t.Fatalf("%s: All tells %v, %v at the place %d; want %s", what, k, m, n, short(l))
		}
		n++
	}
	if n < len(l) {
		t.Fatalf("%s: All tells just %d; want %d", what, n, len(l))
	}
	m, is := c.Latest()
	if len(l) == 0 && (is || !reflect.DeepEqual(m, api.Manifest{})) {
		t.Fatalf("%s: Latest answers %v, %v", what, m, is)
	}
	if len(l) > 0 && (!is || !sameManifest(m, l[len(l)-1].m)) {
		t.Fatalf("%s: Latest answers %v, %v; want %v", what, m, is, l[len(l)-1].m)
	}
	for _, p := range l {
		wantNext(t, what, c, p.key(), -1)
		wantWhole(t, what, c, p)
	}
}

// wantBegun tells that p is begun, with so many pieces, and not published.
func wantBegun(t *testing.T, what string, c *catalog.Catalog, p point, n int) {
	t.Helper()
	wantNext(t, what, c, p.key(), n)
	wantUnread(t, what, c, p.key(), api.ErrNone)
}

// put begins p, and puts its first n pieces.
func put(t *testing.T, c *catalog.Catalog, p point, n int) {
	t.Helper()
	want(t, "Begin", c.Begin(p.m), api.OK)
	for i, b := range p.pieces[:n] {
		want(t, fmt.Sprint("Put ", i), c.Put(p.key(), i, b), api.OK)
	}
}

// finish puts the pieces of p that are not there yet, and publishes it.
func finish(t *testing.T, c *catalog.Catalog, p point, there int) {
	t.Helper()
	for i := there; i < len(p.pieces); i++ {
		want(t, fmt.Sprint("Put ", i), c.Put(p.key(), i, p.pieces[i]), api.OK)
	}
	want(t, "Publish", c.Publish(p.key()), api.OK)
}

// publish has c have p, whole.
func publish(t *testing.T, c *catalog.Catalog, p point) {
	t.Helper()
	want(t, "Begin", c.Begin(p.m), api.OK)
	finish(t, c, p, 0)
}

// names are the store's files, in one text.
func names(s *store.Store) string {
	return strings.Join(slices.Collect(s.Names()), " ")
}

// TestExample is the chapter's.
func TestExample(t *testing.T) {
	p := pointIn(t, two(), 32, 1, 2, 10, 20)
	if len(p.pieces) != 2 {
		t.Fatalf("there are %d pieces", len(p.pieces))
	}
	s := newStore(t, 4096, nil)
	c := open(t, s, 3)
	want(t, "Begin", c.Begin(p.m), api.OK)
	if names(s) != "ck.1.2.d ck.1.2.p" {
		t.Errorf("behind Begin there are %s", names(s))
	}
	wantFiles(t, "Begin", s, p.begun(t, 0))
	want(t, "Put", c.Put(p.key(), 0, p.pieces[0]), api.OK)
	wantFiles(t, "Put", s, p.begun(t, 1))
	want(t, "Put", c.Put(p.key(), 1, p.pieces[1]), api.OK)
	wantFiles(t, "Put", s, p.begun(t, 2))
	want(t, "Publish", c.Publish(p.key()), api.OK)
	if names(s) != "ck.1.2.d ck.1.2.m" {
		t.Errorf("behind Publish there are %s", names(s))
	}
	wantFiles(t, "Publish", s, p.published(t))
	wantCatalog(t, "Publish", c, p)
}

// TestErrors: their numbers are the document's.
func TestErrors(t *testing.T) {
	for e, n := range map[api.Errno]int{
		api.ErrArg: 1, api.ErrMade: 2, api.ErrNone: 4, api.ErrTwice: 5, api.ErrFull: 6, api.ErrPast: 7,
		api.ErrRoom: 30, api.ErrName: 31, api.ErrDown: 32, api.ErrSnap: 120, api.ErrManifest: 170, api.ErrCatalog: 180, api.ErrPieces: 181,
	} {
		if int(e) != n {
			t.Errorf("an error is %d; want %d", e, n)
		}
	}
	if api.MaxNum != end || api.MaxRoom != maxRoom || api.MaxFiles != maxFiles || api.MaxPieces != 512 || api.MaxPiece != 4096 {
		t.Error("a limit is another one")
	}
}
