package catalog_test

import (
	"bytes"
	"fmt"
	"math/rand"
	"reflect"
	"slices"
	"strings"
	"testing"

	"pontoon/api"
	"pontoon/catalog"
	"pontoon/frame"
	"pontoon/graph"
	"pontoon/manifest"
	"pontoon/pack"
	"pontoon/sink"
	"pontoon/snap"
	"pontoon/store"
)

// held is a checkpoint of a model: what was begun and put, wherever it stands.
type held struct {
	m      api.Manifest
	pieces [][]byte
}

func (h held) key() api.TxnKey {
	return api.TxnKey{Epoch: h.m.Epoch, Id: h.m.Id}
}

func (h held) name() string {
	return fmt.Sprintf("ck.%d.%d", h.m.Epoch, h.m.Id)
}

// model is a catalog that does what the chapter tells, word by word, on a store of its own; it keeps all pieces beside that.
type model struct {
	store     *store.Store
	graph     api.Graph
	keep      int
	published []held // rising
	begun     *held
	moments   []moment // behind each of the store's calls
}

// moment is what there is in the midst of a call.
type moment struct {
	store     *store.Store
	published []held
	begun     *held
}

// did notes what there is behind one of the store's calls, and answers what that answered.
func (x *model) did(e api.Errno) api.Errno {
	now := moment{store: x.store.Clone(), published: slices.Clone(x.published)}
	if x.begun != nil {
		now.begun = &held{x.begun.m, slices.Clone(x.begun.pieces)}
	}
	x.moments = append(x.moments, now)
	return e
}

func graphSum(g api.Graph) uint32 {
	b, _ := graph.Bytes(g)
	return frame.Sum(b)
}

func content(s *store.Store, name string) []byte {
	size, _ := s.Size(name)
	b, _ := s.Read(name, 0, size)
	return b
}

func isThere(s *store.Store, name string) bool {
	return slices.Contains(slices.Collect(s.Names()), name)
}

// splitName is a checkpoint's key and a file's ending, if its name is one.
func splitName(name string) (api.TxnKey, string, bool) {
	words := strings.Split(name, ".")
	if len(words) != 4 || words[0] != "ck" || !slices.Contains([]string{"d", "m", "p", "t"}, words[3]) {
		return api.TxnKey{}, "", false
	}
	var numbers [2]int64
	for i, digits := range words[1:3] {
		if len(digits) == 0 || len(digits) > 16 || digits[0] == '0' {
			return api.TxnKey{}, "", false
		}
		for _, c := range []byte(digits) {
			if c < '0' || c > '9' {
				return api.TxnKey{}, "", false
			}
			numbers[i] = 10*numbers[i] + int64(c-'0')
		}
		if numbers[i] > end {
			return api.TxnKey{}, "", false
		}
	}
	return api.TxnKey{Epoch: numbers[0], Id: numbers[1]}, "." + words[3], true
}

// with are the names without that ending of all files that have it, rising.
func with(s *store.Store, ending string) []string {
	var l []string
	for name := range s.Names() {
		if _, x, is := splitName(name); is && x == ending {
			l = append(l, strings.TrimSuffix(name, ending))
		}
	}
	return l
}

// noteIn is the manifest that a file is, if it is one with its name's key.
func noteIn(s *store.Store, name string) (api.Manifest, bool) {
	loads, _, e := frame.Scan(content(s, name))
	if e != 0 || len(loads) != 1 {
		return api.Manifest{}, false
	}
	m, e := manifest.Parse(loads[0])
	k, _, _ := splitName(name)
	return m, e == 0 && m.Epoch == k.Epoch && m.Id == k.Id
}

func modelOpen(s *store.Store, g api.Graph, keep int) (*model, api.Errno) {
	if s == nil || !s.Up() {
		return nil, api.ErrDown
	}
	if _, e := graph.Check(g); e != 0 {
		return nil, e
	}
	if keep < 1 || keep > 8 {
		return nil, api.ErrArg
	}
	x := &model{store: s, graph: g, keep: keep}
	for _, name := range with(s, ".t") {
		x.did(s.Remove(name + ".t"))
	}
	for _, name := range with(s, ".m") {
		m, is := noteIn(s, name+".m")
		if !isThere(s, name+".d") || !is {
			return nil, 180
		}
		loads, _, e := frame.Scan(content(s, name+".d"))
		if e != 0 {
			return nil, 180
		}
		if _, e := manifest.Open(g, m, loads...); e != 0 {
			return nil, 180
		}
		x.add(held{m, loads})
	}
	good := false
	for _, name := range with(s, ".p") {
		m, is := noteIn(s, name+".p")
		if isThere(s, name+".m") || !isThere(s, name+".d") || !is || m.Graph != graphSum(g) || good {
			x.did(s.Remove(name + ".p"))
			continue
		}
		good = true
		x.goOn(m)
	}
	for _, name := range with(s, ".d") {
		if !isThere(s, name+".m") && !isThere(s, name+".p") {
			x.did(s.Remove(name + ".d"))
		}
	}
	return x, 0
}

func (x *model) add(h held) {
	x.published = append(slices.Clone(x.published), h)
	slices.SortFunc(x.published, func(a, b held) int {
		if manifest.Less(a.key(), b.key()) {
			return -1
		}
		return 1
	})
}

func (x *model) goOn(m api.Manifest) {
	h := held{m: m}
	x.begun = &h
	all := content(x.store, h.name()+".d")
	loads, _, _ := frame.Scan(all)
	stand := 0
	for n, b := range loads {
		if n >= len(m.Pieces) || len(b) != m.Pieces[n].Len || frame.Sum(b) != m.Pieces[n].Sum {
			break
		}
		h.pieces = append(h.pieces, b)
		stand += 12 + len(b)
	}
	if stand < len(all) {
		x.did(x.store.Cut(h.name()+".d", stand))
	} else {
		x.did(x.store.Sync(h.name() + ".d"))
	}
}

func (x *model) has(k api.TxnKey) int {
	return slices.IndexFunc(x.published, func(h held) bool { return h.key() == k })
}

func (x *model) begin(m api.Manifest) api.Errno {
	if !x.store.Up() {
		return api.ErrDown
	}
	if e := manifest.Check(m); e != 0 {
		return e
	}
	if m.Graph != graphSum(x.graph) {
		return 170
	}
	h := held{m: manifest.Clone(m)}
	if x.has(h.key()) >= 0 {
		return api.ErrTwice
	}
	if x.begun != nil && x.begun.key() == h.key() && manifest.Same(x.begun.m, m) {
		return 0
	}
	x.dropBegun()
	form, _ := manifest.Bytes(m)
	b, _ := frame.Make(form)
	e := x.did(x.store.Create(h.name() + ".d"))
	if e == 0 {
		e = x.did(x.store.Create(h.name() + ".t"))
	}
	if e == 0 {
		e = x.did(x.store.Write(h.name()+".t", 0, b))
	}
	if e == 0 {
		e = x.did(x.store.Sync(h.name() + ".t"))
	}
	if e == 0 {
		if e = x.store.Rename(h.name()+".t", h.name()+".p"); e == 0 {
			x.begun = &h
		}
		x.did(e)
	}
	if e != 0 {
		x.did(x.store.Remove(h.name() + ".t"))
		x.did(x.store.Remove(h.name() + ".d"))
	}
	return e
}

func (x *model) dropBegun() {
	if x.begun == nil {
		return
	}
	name := x.begun.name()
	x.begun = nil
	x.did(x.store.Remove(name + ".p"))
	x.did(x.store.Remove(name + ".d"))
}

func (x *model) put(k api.TxnKey, piece int, b []byte) api.Errno {
	if !x.store.Up() {
		return api.ErrDown
	}
	if x.begun == nil || x.begun.key() != k {
		return api.ErrNone
	}
	known := x.begun.m.Pieces
	switch there := len(x.begun.pieces); {
	case piece < there || piece < 0:
		return api.ErrPast
	case piece > there || piece >= len(known):
		return api.ErrArg
	case !snap.Fits(known[piece], b):
		return 120
	}
	framed, _ := frame.Make(b)
	name := x.begun.name() + ".d"
	size, _ := x.store.Size(name)
	if e := x.did(x.store.Write(name, size, framed)); e != 0 {
		return e
	}
	x.begun.pieces = append(slices.Clone(x.begun.pieces), slices.Clone(b))
	return x.did(x.store.Sync(name))
}

func (x *model) publish(k api.TxnKey) api.Errno {
	if !x.store.Up() {
		return api.ErrDown
	}
	if x.begun == nil || x.begun.key() != k {
		return api.ErrNone
	}
	h := *x.begun
	if len(h.pieces) != len(h.m.Pieces) {
		return 181
	}
	if _, e := manifest.Open(x.graph, h.m, h.pieces...); e != 0 {
		return e
	}
	if e := x.store.Rename(h.name()+".p", h.name()+".m"); e != 0 {
		return e
	}
	x.begun = nil
	x.add(h)
	x.did(0)
	for len(x.published) > x.keep {
		x.drop(0)
	}
	return 0
}

func (x *model) drop(n int) {
	name := x.published[n].name()
	x.published = slices.Delete(slices.Clone(x.published), n, n+1)
	x.did(x.store.Remove(name + ".m"))
	x.did(x.store.Remove(name + ".d"))
}

func (x *model) above(vector []int64) (int, api.Errno) {
	if !x.store.Up() {
		return 0, api.ErrDown
	}
	if x.begun != nil && !sink.Above(vector, x.begun.m.Vector) {
		x.dropBegun()
	}
	gone := 0
	for n := 0; n < len(x.published); {
		if sink.Above(vector, x.published[n].m.Vector) {
			n++
			continue
		}
		x.drop(n)
		gone++
	}
	return gone, 0
}

// Kinds of acts.
const (
	begin = iota
	putOne
	publishOne
	above
	kinds
)

// act is a call that may change a catalog; it has what that call takes.
type act struct {
	kind   int
	m      api.Manifest
	key    api.TxnKey
	piece  int
	b      []byte
	vector []int64
}

func (a act) String() string {
	switch a.kind {
	case begin:
		return fmt.Sprintf("Begin(%d.%d %v)", a.m.Epoch, a.m.Id, a.m.Vector)
	case putOne:
		return fmt.Sprintf("Put(%v, %d, %x)", a.key, a.piece, a.b)
	case publishOne:
		return fmt.Sprintf("Publish(%v)", a.key)
	}
	return fmt.Sprintf("Above(%v)", a.vector)
}

func do(c *catalog.Catalog, a act) (int, api.Errno) {
	switch a.kind {
	case begin:
		return 0, c.Begin(a.m)
	case putOne:
		return 0, c.Put(a.key, a.piece, a.b)
	case publishOne:
		return 0, c.Publish(a.key)
	}
	return c.Above(a.vector)
}

func (x *model) do(a act) (int, api.Errno) {
	x.moments = nil
	switch a.kind {
	case begin:
		return 0, x.begin(a.m)
	case putOne:
		return 0, x.put(a.key, a.piece, a.b)
	case publishOne:
		return 0, x.publish(a.key)
	}
	return x.above(a.vector)
}

// asked are keys about which tests ask a catalog.
func asked() []api.TxnKey {
	var l []api.TxnKey
	for epoch := int64(1); epoch <= 3; epoch++ {
		for id := int64(1); id <= 4; id++ {
			l = append(l, key(epoch, id))
		}
	}
	return append(l, api.TxnKey{}, key(10, 1), key(end, end), key(-1, 2))
}

// wantHeld holds all that c tells against what it must have.
func wantHeld(t *testing.T, what string, c *catalog.Catalog, g api.Graph, up bool, published []held, begun *held) {
	t.Helper()
	n := 0
	for k, m := range c.All() {
		if n == len(published) || k != published[n].key() || !sameManifest(m, published[n].m) {
			t.Fatalf("%s: All tells %v, %v at the place %d", what, k, m, n)
		}
		n++
	}
	if n != len(published) {
		t.Fatalf("%s: All tells just %d; want %d", what, n, len(published))
	}
	m, is := c.Latest()
	if is != (n > 0) || is && !sameManifest(m, published[n-1].m) {
		t.Fatalf("%s: Latest answers %v, %v", what, m, is)
	}
	for _, k := range asked() {
		wantKey(t, what, c, g, up, k, published, begun)
	}
}

func wantKey(t *testing.T, what string, c *catalog.Catalog, g api.Graph, up bool, k api.TxnKey, published []held, begun *held) {
	t.Helper()
	n, e := c.Next(k)
	i := slices.IndexFunc(published, func(h held) bool { return h.key() == k })
	switch {
	case i >= 0 && (n != -1 || e != 0),
		i < 0 && begun != nil && begun.key() == k && (n != len(begun.pieces) || e != 0),
		i < 0 && (begun == nil || begun.key() != k) && (n != 0 || e != api.ErrNone):
		t.Fatalf("%s: Next(%v) answers %d, %d", what, k, n, e)
	case !up:
		wantUnread(t, what, c, k, api.ErrDown)
	case i < 0:
		wantUnread(t, what, c, k, api.ErrNone)
	default:
		h := published[i]
		state, e := manifest.Open(g, h.m, h.pieces...)
		want(t, "manifest.Open of what is published", e, api.OK)
		wantWhole(t, what, c, point{h.m, h.pieces, state})
	}
}

// pair is a catalog and its model, each on its own store; both are nil while there is no catalog.
type pair struct {
	graph api.Graph
	keep  int
	c     *catalog.Catalog
	x     *model
	at    *store.Store
	model *store.Store
	told  []string
}

func newPair(t *testing.T, room, keep int, f files) *pair {
	t.Helper()
	p := &pair{graph: two(), keep: keep, at: newStore(t, room, f)}
	p.model = p.at.Clone()
	return p
}

// wantAlike holds all that there is to be seen of both against each other.
func (p *pair) wantAlike(t *testing.T) {
	t.Helper()
	if got, want := tell(t, p.at), tell(t, p.model); !reflect.DeepEqual(got, want) {
		t.Fatalf("%s: the store is %s; want %s", strings.Join(p.told, ", "), short(got), short(want))
	}
	if p.c != nil {
		wantHeld(t, strings.Join(p.told, ", "), p.c, p.graph, p.at.Up(), p.x.published, p.x.begun)
	}
}

// open opens both, whatever catalog there was.
func (p *pair) open(t *testing.T) api.Errno {
	t.Helper()
	p.told = append(p.told, fmt.Sprint("Open ", p.keep))
	c, e := catalog.Open(p.at, p.graph, p.keep)
	x, wants := modelOpen(p.model, p.graph, p.keep)
	want(t, strings.Join(p.told, ", "), e, wants)
	if (c == nil) != (e != api.OK) {
		t.Fatalf("%s: %v beside %d", strings.Join(p.told, ", "), c, e)
	}
	p.c, p.x = c, x
	p.wantAlike(t)
	return e
}

// act does an act at both.
func (p *pair) act(t *testing.T, a act) api.Errno {
	t.Helper()
	p.told = append(p.told, a.String())
	n, e := do(p.c, a)
	m, wants := p.x.do(a)
	if n != m || e != wants {
		t.Fatalf("%s answers %d, %d; want %d, %d", strings.Join(p.told, ", "), n, e, m, wants)
	}
	p.wantAlike(t)
	return e
}

// both does the same to both stores.
func (p *pair) both(t *testing.T, what string, f func(s *store.Store) api.Errno) api.Errno {
	t.Helper()
	p.told = append(p.told, what)
	e := f(p.at)
	want(t, strings.Join(p.told, ", "), e, f(p.model))
	return e
}

// pool is what acts are made of: three epochs of four checkpoints, two for each key, and one that never fits.
type pool struct {
	l    []point
	bad  []point
	name map[api.TxnKey][]point
}

func newPool(t *testing.T) *pool {
	t.Helper()
	x := &pool{name: map[api.TxnKey][]point{}}
	for epoch := int64(1); epoch <= 3; epoch++ {
		for id := int64(1); id <= 4; id++ {
			x.l = append(x.l, pointIn(t, two(), 16, epoch, id, 3*epoch+id, 10-2*id), pointIn(t, two(), 23, epoch, id, id, id+epoch))
		}
	}
	x.l = append(x.l, pointOf(t, 10, 1, 12, 12))
	x.bad = []point{
		pointOf(t, 1, 2, 3, 4).change(func(m *api.Manifest) { m.Vector[0]++ }),
		pointOf(t, 2, 1, 3, 4).change(func(m *api.Manifest) { m.Graph++ }),
		pointOf(t, 2, 2, 3, 4).change(func(m *api.Manifest) { m.Begin++ }),
		pointOf(t, 3, 3, 3, 4).change(func(m *api.Manifest) { m.Vector = []int64{3, 4, 5} }),
		{m: pointOf(t, 3, 1, 3, 4).change(func(m *api.Manifest) { m.Pieces = nil }).m},
		pointIn(t, one(), 8, 2, 2, 7),
	}
	for _, p := range slices.Concat(x.l, x.bad) {
		x.name[p.key()] = append(x.name[p.key()], p)
	}
	return x
}

// of is the point of that manifest.
func (x *pool) of(m api.Manifest) (point, bool) {
	for _, p := range x.name[key(m.Epoch, m.Id)] {
		if manifest.Same(p.m, m) {
			return p, true
		}
	}
	return point{}, false
}

// act is one that mostly goes on with what is begun.
func (x *pool) act(r *rand.Rand, begun *held) act {
	p := x.l[r.Intn(len(x.l))]
	if r.Intn(12) == 0 {
		p = x.bad[r.Intn(len(x.bad))]
	}
	n := r.Intn(100)
	if n < 4 {
		return act{kind: above, vector: [][]int64{{12, 12}, {9, 9}, {r.Int63n(14), r.Int63n(14)}, {12, r.Int63n(12)}, nil, {5}}[r.Intn(6)]}
	}
	if n < 6 {
		return act{kind: publishOne, key: p.key()}
	}
	if begun == nil || n < 14 {
		return act{kind: begin, m: p.m}
	}
	if n < 18 {
		return act{kind: begin, m: begun.m}
	}
	there := len(begun.pieces)
	if now, is := x.of(begun.m); is && n < 97 {
		p = now
	}
	switch {
	case n < 24 || there == len(p.pieces) && n < 90:
		return act{kind: publishOne, key: p.key()}
	case n < 85 && there < len(p.pieces):
		return act{kind: putOne, key: p.key(), piece: there, b: p.pieces[there]}
	}
	piece := there + r.Intn(3) - 1
	b := []byte{byte(n)}
	if len(p.pieces) > 0 {
		b = p.pieces[min(max(piece, 0), len(p.pieces)-1)]
	}
	if r.Intn(2) == 0 {
		b = append(slices.Clone(b), 0)[r.Intn(2):]
	}
	return act{kind: putOne, key: p.key(), piece: piece, b: b}
}

// someName is a file's, mostly a checkpoint's.
func (x *pool) someName(r *rand.Rand) string {
	p := x.l[r.Intn(len(x.l))]
	return p.name() + []string{".d", ".m", ".p", ".t", ".d", ".x", ""}[r.Intn(7)]
}

// disturb is what somebody else does to a store, ahead of its being opened again.
func (p *pair) disturb(t *testing.T, r *rand.Rand, x *pool) string {
	t.Helper()
	name, to := x.someName(r), x.someName(r)
	if all := slices.Collect(p.at.Names()); len(all) > 0 && r.Intn(4) > 0 {
		name = all[r.Intn(len(all))]
	}
	at, b := r.Intn(200), make([]byte, r.Intn(30))
	r.Read(b)
	switch r.Intn(8) {
	case 0:
		p.both(t, "Remove "+name, func(s *store.Store) api.Errno { return s.Remove(name) })
		return "Remove"
	case 1:
		p.both(t, "Rename "+name+" "+to, func(s *store.Store) api.Errno { return s.Rename(name, to) })
		return "Rename"
	case 2:
		p.both(t, fmt.Sprint("Cut ", name, at), func(s *store.Store) api.Errno { return s.Cut(name, at) })
		return "Cut"
	case 3:
		p.both(t, "Write behind "+name, func(s *store.Store) api.Errno {
			size, _ := s.Size(name)
			return s.Write(name, size, b)
		})
		return "behind"
	case 4:
		p.both(t, fmt.Sprint("Write ", name, at), func(s *store.Store) api.Errno { return s.Write(name, at, b) })
		return "Write"
	case 5:
		p.both(t, "Create "+name, func(s *store.Store) api.Errno { return s.Create(to) })
		return "Create"
	case 6:
		q := x.l[r.Intn(len(x.l))]
		f := q.begun(t, r.Intn(len(q.pieces)+1))
		for _, name := range []string{q.name() + ".d", q.name() + ".p"} {
			p.both(t, "make "+name, func(s *store.Store) api.Errno {
				s.Create(name)
				s.Cut(name, 0)
				return s.Write(name, 0, f[name])
			})
		}
		return "make"
	default:
		p.both(t, "nothing", func(s *store.Store) api.Errno { return api.OK })
		return "nothing"
	}
}

// filler has both stores have just so much room.
func (p *pair) filler(t *testing.T, left int) {
	t.Helper()
	p.both(t, fmt.Sprint("Fill ", left), func(s *store.Store) api.Errno {
		s.Create("filler")
		s.Cut("filler", 0)
		return s.Write("filler", 0, make([]byte, max(s.Left()-left, 0)))
	})
}

// pendingOf tells whether a checkpoint's file is not sure, as somebody else wrote to it.
func pendingOf(t *testing.T, s *store.Store) bool {
	t.Helper()
	d := tell(t, s)
	for name, b := range d.bytes {
		if strings.HasPrefix(name, "ck.") && b != d.sure[name] {
			return true
		}
	}
	return false
}

// TestModelOfManyActs: calls, crashes, openings, and what others do to the store.
func TestModelOfManyActs(t *testing.T) {
	r := rand.New(rand.NewSource(181))
	x := newPool(t)
	seen := map[string]int{}
	for range 120 {
		p := newPair(t, 20000, 1+r.Intn(3), nil)
		p.open(t)
		for range 150 {
			p.told = p.told[max(len(p.told)-12, 0):]
			switch n := r.Intn(100); {
			case p.c == nil:
				// Nothing of it is of use any more.
				p = newPair(t, 20000, 1+r.Intn(4), nil)
				p.open(t)
			case n < 3:
				seen[p.disturb(t, r, x)]++
				if r.Intn(2) == 0 {
					p.both(t, "Crash", func(s *store.Store) api.Errno { s.Crash(n, n); return s.Start() })
				}
				seen[fmt.Sprint("Open ", p.open(t))]++
			case n < 6:
				keep, torn := r.Int(), r.Int()
				pending := pendingOf(t, p.at)
				p.both(t, "Crash", func(s *store.Store) api.Errno { return s.Crash(keep, torn) })
				seen[fmt.Sprint("down ", p.act(t, x.act(r, p.x.begun)))]++
				p.both(t, "Start", func(s *store.Store) api.Errno { return s.Start() })
				if pending || r.Intn(3) > 0 {
					p.keep = 1 + r.Intn(4)
					seen[fmt.Sprint("Open ", p.open(t))]++
				}
			case n < 8:
				p.filler(t, []int{20000, 0, 30, 150, 20000}[r.Intn(5)])
			case n < 9:
				p.graph = two()
				p.open(t)
			default:
				a := x.act(r, p.x.begun)
				had := len(p.x.published)
				e := p.act(t, a)
				seen[fmt.Sprint(a.kind, " ", e)]++
				if a.kind == publishOne && e == 0 && len(p.x.published) <= had {
					seen["taken away"]++
				}
			}
		}
	}
	for _, what := range []string{
		"Open 0", "Open 180", "down 32", "taken away",
		"0 0", "0 5", "0 30", "0 170", "1 0", "1 1", "1 4", "1 7", "1 30", "1 120", "2 0", "2 4", "2 181", "2 170", "2 10", "3 0",
		"Remove", "Rename", "Cut", "behind", "Write", "Create", "make", "nothing",
	} {
		if seen[what] < 20 {
			t.Errorf("of %s there were just %d", what, seen[what])
		}
	}
}

// TestModelOfDamagedFiles: Open of what others made of the files of several checkpoints.
func TestModelOfDamagedFiles(t *testing.T) {
	r := rand.New(rand.NewSource(182))
	x := newPool(t)
	seen := map[string]int{}
	for range 3000 {
		f := files{}
		for range r.Intn(4) {
			p := x.l[r.Intn(len(x.l))]
			f = f.and(p.published(t))
		}
		for range r.Intn(4) {
			p := x.l[r.Intn(len(x.l))]
			f = f.and(p.begun(t, r.Intn(len(p.pieces)+1)))
		}
		p := newPair(t, 20000, 1+r.Intn(3), f)
		for range r.Intn(3) {
			p.disturb(t, r, x)
		}
		e := p.open(t)
		seen[fmt.Sprint(e)]++
		if e == api.OK && p.x.begun != nil {
			seen["begun"]++
			a := x.act(r, p.x.begun)
			p.act(t, a)
		}
		if e == api.OK && len(p.x.published) > 1 {
			seen["published"]++
		}
	}
	for _, what := range []string{"0", "180", "begun", "published"} {
		if seen[what] < 300 {
			t.Errorf("of %s there were just %d", what, seen[what])
		}
	}
}

// FuzzActs takes its numbers as choices of acts, crashes and fillings.
func FuzzActs(f *testing.F) {
	f.Add(int64(1), []byte{1, 2, 3, 200, 5, 60, 250, 8})
	f.Add(int64(7), bytes.Repeat([]byte{0}, 100))
	f.Fuzz(func(t *testing.T, seed int64, b []byte) {
		r := rand.New(rand.NewSource(seed))
		x := newPool(t)
		p := newPair(t, 20000, 1+r.Intn(4), nil)
		p.open(t)
		for _, n := range b[:min(len(b), 200)] {
			switch {
			case p.c == nil:
				return
			case n > 250:
				p.disturb(t, r, x)
				p.open(t)
			case n > 240:
				p.both(t, "Crash", func(s *store.Store) api.Errno { s.Crash(int(n), int(n)*7); return s.Start() })
				p.open(t)
			case n > 230:
				p.filler(t, int(n-231)*40)
			default:
				p.act(t, x.act(r, p.x.begun))
			}
		}
	})
}

// FuzzOpen takes its bytes as the files of a checkpoint that is published, and of one that is begun.
func FuzzOpen(f *testing.F) {
	f.Add([]byte{1}, []byte{2}, []byte{3}, []byte{4}, uint8(0))
	f.Add(pack.Int(nil, 1, 2, 1, 0, 0, 0, 0, 0), []byte("piece"), []byte("ck"), []byte(nil), uint8(7))
	f.Fuzz(func(t *testing.T, note, pieces, begun, more []byte, kind uint8) {
		if len(note)+len(pieces)+len(begun)+len(more) > 100000 {
			return
		}
		p, q := pointOf(t, 1, 2, 3, 4), pointOf(t, 2, 1, 5, 6)
		had := p.published(t).and(q.begun(t, 2))
		for i, name := range []string{"ck.1.2.m", "ck.1.2.d", "ck.2.1.p", "ck.2.1.d"} {
			b := [][]byte{note, pieces, begun, more}[i]
			switch kind >> (2 * i) & 3 {
			case 1:
				had[name] = b
			case 2:
				had[name] = append(had[name], b...)
			case 3:
				had[name] = frames(t, b)
			}
		}
		x := newPair(t, maxRoom, 2, had)
		if x.open(t) == api.OK {
			x.act(t, act{kind: putOne, key: q.key(), piece: 2, b: q.pieces[2]})
			x.act(t, act{kind: publishOne, key: q.key()})
		}
	})
}
