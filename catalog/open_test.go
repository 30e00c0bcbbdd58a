package catalog_test

import (
	"fmt"
	"maps"
	"slices"
	"testing"

	"pontoon/api"
	"pontoon/catalog"
	"pontoon/frame"
	"pontoon/graph"
	"pontoon/manifest"
	"pontoon/store"
)

// wantNoCatalog tells that Open answers that error, and no catalog.
func wantNoCatalog(t *testing.T, what string, s *store.Store, g api.Graph, keep int, err api.Errno) {
	t.Helper()
	if c, e := catalog.Open(s, g, keep); c != nil || e != err {
		t.Fatalf("%s: Open answers %v, %d; want %d", what, c, e, err)
	}
}

// wantRefused tells that these files are no catalog of two; they stay as they are, but for what is unfinished.
func wantRefused(t *testing.T, what string, f files) {
	t.Helper()
	s := newStore(t, maxRoom, f.and(files{"ck.7.7.t": {1}}))
	for range 2 {
		wantNoCatalog(t, what, s, two(), 3, api.ErrCatalog)
		wantFiles(t, what, s, f)
	}
}

// wantOpen tells what the catalog of these files is, and what files there are then; opened again, it is the same.
func wantOpen(t *testing.T, what string, f, then files, l ...point) *catalog.Catalog {
	t.Helper()
	s := newStore(t, maxRoom, f)
	open(t, s, 8)
	wantFiles(t, what, s, then)
	c := open(t, s, 8)
	wantCatalog(t, what, c, l...)
	wantFiles(t, what, s, then)
	return c
}

// badGraphs are graphs that graph.Check refuses.
func badGraphs(t *testing.T) map[api.Errno]api.Graph {
	t.Helper()
	kind, edge, taken := two(), two(), two()
	kind.Ops[3].Kind = 99
	edge.Ops[2].In[0].From = 3
	taken.Ops[2].In[1].From = 0
	bad := map[api.Errno]api.Graph{
		api.ErrArg:   {},
		api.ErrPart:  {Parts: 2, Ops: one().Ops},
		api.ErrKind:  kind,
		api.ErrEdge:  edge,
		api.ErrTaken: taken,
		api.ErrLoose: {Parts: 1, Ops: []api.Op{{Kind: api.OpSource}}},
	}
	for err, g := range bad {
		if _, e := graph.Check(g); e != err {
			t.Fatalf("graph.Check(%v) answers %d; want %d", g, e, err)
		}
	}
	return bad
}

var badKeeps = []int{least, -9, -1, 0, 9, 10, 1 << 32, 1<<32 + 1, most}

func TestP181NoStore(t *testing.T) {
	for _, keep := range append(slices.Clone(badKeeps), 1, 8) {
		for _, g := range []api.Graph{two(), {}, {Parts: 2, Ops: one().Ops}} {
			wantNoCatalog(t, "nil", nil, g, keep, api.ErrMade)
			wantNoCatalog(t, "zero", &store.Store{}, g, keep, api.ErrMade)
			s := newStore(t, 100, files{"ck.1.1.t": {1}, "ck.1.1.m": {2}, "ck.1.2.p": {3}, "ck.1.3.d": {4}})
			want(t, "Crash", s.Crash(0, 0), api.OK)
			had := tell(t, s)
			wantNoCatalog(t, "down", s, g, keep, api.ErrDown)
			wantDisk(t, "down", s, had)
		}
	}
}

func TestP181Arguments(t *testing.T) {
	for _, f := range []files{nil, {"ck.1.1.t": {1}}, {"ck.1.1.m": {2}}, {"ck.1.1.p": {3}}, {"ck.1.1.d": {4}}} {
		s := newStore(t, 100, f)
		for err, g := range badGraphs(t) {
			for _, keep := range append(slices.Clone(badKeeps), 1, 8) {
				wantNoCatalog(t, "a graph that may not be", s, g, keep, err)
				wantFiles(t, "a graph that may not be", s, f)
			}
		}
		for _, keep := range badKeeps {
			wantNoCatalog(t, fmt.Sprint("keep ", keep), s, two(), keep, api.ErrArg)
			wantFiles(t, fmt.Sprint("keep ", keep), s, f)
		}
	}
	for keep := 1; keep <= 8; keep++ {
		s := newStore(t, 0, nil)
		wantCatalog(t, "nothing", open(t, s, keep))
		wantFiles(t, "nothing", s, nil)
	}
}

// TestP181Keep: which keep a catalog has is seen when something is published.
func TestP181Keep(t *testing.T) {
	for keep := 1; keep <= 8; keep++ {
		c := open(t, newStore(t, maxRoom, nil), keep)
		var l []point
		for id := range int64(10) {
			p := pointOf(t, 1, id+1, 5, id)
			publish(t, c, p)
			l = append(l, p)
			wantCatalog(t, fmt.Sprint("keep ", keep), c, l[max(len(l)-keep, 0):]...)
		}
	}
}

// TestP181MoreThanKeep: a catalog that is opened with a lesser keep has all that are published, till the next one is.
func TestP181MoreThanKeep(t *testing.T) {
	var l []point
	for id := range int64(12) {
		l = append(l, pointOf(t, 1, id+1, id, id))
	}
	f := allOf(t, l[:11]...)
	s := newStore(t, maxRoom, f)
	c := open(t, s, 2)
	wantCatalog(t, "opened", c, l[:11]...)
	wantFiles(t, "opened", s, f)
	publish(t, c, l[11])
	wantCatalog(t, "published", c, l[10:]...)
	wantFiles(t, "published", s, allOf(t, l[10:]...))
}

// foreign are files of others: their names are near to those of checkpoints.
func foreign() files {
	f := files{}
	for _, name := range []string{
		"ck.01.1", "ck.1.01", "ck.0.1", "ck.1.0", "ck.00.1", "ck.9007199254740993.1", "ck.1.9007199254740993", "ck.9223372036854775807.1",
		"ck.18446744073709551617.1", "ck.1.18446744073709551617", "ck.340282366920938463463374607431768211457.1", "ck.+1.1", "ck.1.+1", "ck.-1.1", "ck.1.-1",
		"ck.1_0.1", "ck.0x1.1", "ck. 1.1", "ck.1 .1", "ck.1.1 ", "ck.a.1", "ck.1.a", "ck..1", "ck.1.", "ck.1", "ck..", "ck.", "ck", "", "1.1", "ck.1.1.1", "ck.1.1.", "ck..1.1",
		"ck.1.1.d", "ck.1.1.m", "ck.1.1.p", "ck.1.1.t", "ck.1,1", "ck1.1", "CK.1.1", "Ck.1.1", "xck.1.1", "ck.ck.1.1", ".1.1", "ck.1e0.1", "ck.١.1", "ck.1.1\x00",
	} {
		for _, ending := range []string{".d", ".m", ".p", ".t"} {
			f[name+ending] = []byte(name)
		}
	}
	for _, ending := range []string{"", ".", ".D", ".M", ".P", ".T", ".x", "d", "m", "p", "t", ".dd", ".mm", ".pp", ".tt", ".d.", ".m.", "..m", "..p", ".m ", " .m", ".p\x00", ".mp", ".tmp", ".md"} {
		f["ck.1.1"+ending] = []byte(ending)
		f["ck.2.5"+ending] = []byte(ending)
	}
	return f
}

// TestP181OtherNames: names that are nobody's here are left as they are.
func TestP181OtherNames(t *testing.T) {
	f := foreign()
	if len(f) < 200 {
		t.Fatalf("there are just %d names", len(f))
	}
	wantOpen(t, "others", f, f)
	p, q := pointOf(t, 1, 1, 5, 6), pointOf(t, 2, 5, 7, 8)
	c := wantOpen(t, "beside others", f.and(p.published(t), q.begun(t, 2)), f.and(p.published(t), q.begun(t, 2)), p)
	wantBegun(t, "beside others", c, q, 2)
	// They stay so whatever is done.
	s := newStore(t, maxRoom, f)
	c = open(t, s, 1)
	publish(t, c, p)
	put(t, c, q, 2)
	wantFiles(t, "beside others", s, f.and(p.published(t), q.begun(t, 2)))
	finish(t, c, q, 2)
	wantFiles(t, "p is taken away", s, f.and(q.published(t)))
	n, e := c.Above(nil)
	if want(t, "Above", e, api.OK); n != 1 {
		t.Errorf("Above takes %d away", n)
	}
	wantFiles(t, "all are taken away", s, f)
}

// TestP181Names: keys from 1 to MaxNum are taken.
func TestP181Names(t *testing.T) {
	for _, k := range []api.TxnKey{key(1, 1), key(1, end), key(end, 1), key(end, end), key(10, 100), key(9, 1000000007), key(end-1, 9)} {
		p := pointOf(t, k.Epoch, k.Id, 3, 4)
		for _, ending := range []string{".t", ".d", ".p", ".m"} {
			// Each of these is somebody's here, as it is removed, or no catalog is.
			s := newStore(t, maxRoom, files{p.name() + ending: {1}})
			if ending == ".m" {
				wantNoCatalog(t, p.name(), s, two(), 1, api.ErrCatalog)
			} else {
				open(t, s, 1)
				wantFiles(t, p.name(), s, nil)
			}
		}
		wantOpen(t, p.name(), p.published(t), p.published(t), p)
		wantBegun(t, p.name(), wantOpen(t, p.name(), p.begun(t, 1), p.begun(t, 1)), p, 1)
	}
}

// TestP181Unfinished: each NAME.t is removed, whatever it is, also ahead of files that no catalog is.
func TestP181Unfinished(t *testing.T) {
	p, q := pointOf(t, 1, 1, 5, 6), pointOf(t, 1, 2, 7, 8)
	f := p.published(t).and(q.begun(t, 1))
	for _, b := range [][]byte{nil, {1, 2, 3}, note(t, p.m), note(t, q.m)} {
		more := files{"ck.1.1.t": b, "ck.1.2.t": b, "ck.1.3.t": b, "ck.77.8.t": b, "ck.9007199254740992.9007199254740992.t": b}
		s := newStore(t, maxRoom, f.and(more))
		// What is pending of one goes, too.
		want(t, "Write", s.Write("ck.1.3.t", 0, []byte{9, 9}), api.OK)
		c := open(t, s, 3)
		wantFiles(t, "unfinished ones", s, f)
		wantCatalog(t, "unfinished ones", c, p)
		wantBegun(t, "unfinished ones", c, q, 1)
		bad := files{"ck.1.1.m": {1}, "ck.2.2.p": {1}, "ck.3.3.d": {1}}
		s = newStore(t, maxRoom, more.and(bad))
		wantNoCatalog(t, "no catalog", s, two(), 3, api.ErrCatalog)
		wantFiles(t, "no catalog", s, bad)
	}
}

// notNotes are bytes that are not one whole frame of a manifest with p's key.
func notNotes(t *testing.T, p point) map[string][]byte {
	t.Helper()
	good := note(t, p.m)
	form, _ := manifest.Bytes(p.m)
	out := map[string][]byte{
		"nothing":            nil,
		"a byte":             good[:1],
		"half a frame":       good[:len(good)/2],
		"all but a byte":     good[:len(good)-1],
		"two frames":         append(slices.Clone(good), good...),
		"a byte behind":      append(slices.Clone(good), 0),
		"an empty frame":     frames(t, nil),
		"a frame behind":     append(slices.Clone(good), frames(t, nil)...),
		"a frame ahead":      append(frames(t, nil), good...),
		"a byte ahead":       append([]byte{0}, good...),
		"no frame":           form,
		"no manifest":        frames(t, form[:len(form)-1]),
		"a longer manifest":  frames(t, append(slices.Clone(form), 0)),
		"another Id":         note(t, p.change(func(m *api.Manifest) { m.Id++ }).m),
		"another Epoch":      note(t, p.change(func(m *api.Manifest) { m.Epoch++ }).m),
		"Epoch and Id":       note(t, p.change(func(m *api.Manifest) { m.Epoch, m.Id = m.Id, m.Epoch }).m),
		"pieces":             frames(t, p.pieces...),
		"a manifest refused": frames(t, slices.Concat([]byte{0}, form[1:])),
	}
	for n := range good {
		turned := slices.Clone(good)
		turned[n] ^= 1 << (n % 8)
		out[fmt.Sprint("bits turned at ", n)] = turned
	}
	return out
}

// TestP181PublishedNotes: a NAME.m that is not what it must be, alone and with others that are.
func TestP181PublishedNotes(t *testing.T) {
	p := pointOf(t, 2, 3, 5, 6)
	beside := allOf(t, pointOf(t, 1, 9, 1, 1), pointOf(t, 2, 2, 3, 3), pointOf(t, 3, 1, 9, 9)).and(pointOf(t, 3, 2, 10, 10).begun(t, 1))
	for what, b := range notNotes(t, p) {
		bad := p.published(t).and(files{"ck.2.3.m": b})
		wantRefused(t, what, bad)
		wantRefused(t, what+" beside others", bad.and(beside))
	}
	wantOpen(t, "good", p.published(t), p.published(t), p)
}

// TestP181PublishedAlone: a NAME.m without NAME.d.
func TestP181PublishedAlone(t *testing.T) {
	p := pointOf(t, 2, 3, 5, 6)
	for _, more := range []files{nil, {"ck.2.3.p": note(t, p.m)}, {"ck.2.3": frames(t, p.pieces...)}, {"ck.3.2.d": frames(t, p.pieces...)}, pointOf(t, 1, 1, 1, 1).published(t)} {
		wantRefused(t, "without NAME.d", p.published(t).without("ck.2.3.d").and(more))
	}
}

// notPieces are bytes that are not whole frames of p's pieces.
func notPieces(t *testing.T, p point) map[string][]byte {
	t.Helper()
	good := frames(t, p.pieces...)
	last := len(p.pieces) - 1
	swapped := slices.Clone(p.pieces)
	swapped[0], swapped[1] = swapped[1], swapped[0]
	out := map[string][]byte{
		"nothing":          nil,
		"one too few":      frames(t, p.pieces[:last]...),
		"the first left":   frames(t, p.pieces[1:]...),
		"one too many":     frames(t, append(slices.Clone(p.pieces), p.pieces[last])...),
		"an empty one":     frames(t, append(slices.Clone(p.pieces), nil)...),
		"swapped":          frames(t, swapped...),
		"one frame of all": frames(t, slices.Concat(p.pieces...)),
		"no frames":        slices.Concat(p.pieces...),
		"a byte behind":    append(slices.Clone(good), 0),
		"torn behind":      append(slices.Clone(good), good[:7]...),
		"a byte ahead":     append([]byte{0}, good...),
		"its manifest":     note(t, p.m),
		"another's":        frames(t, pointOf(t, p.m.Epoch, p.m.Id+1, p.m.Vector...).pieces...),
	}
	for n := range good {
		out[fmt.Sprint("torn at ", n)] = good[:n]
		turned := slices.Clone(good)
		turned[n] ^= 1 << (n % 8)
		out[fmt.Sprint("bits turned at ", n)] = turned
	}
	return out
}

func TestP181PublishedPieces(t *testing.T) {
	p := pointOf(t, 2, 3, 5, 6)
	beside := allOf(t, pointOf(t, 1, 9, 1, 1), pointOf(t, 3, 1, 9, 9))
	for what, b := range notPieces(t, p) {
		bad := p.published(t).and(files{"ck.2.3.d": b})
		wantRefused(t, what, bad)
		wantRefused(t, what+" beside others", bad.and(beside))
	}
}

// misfits are checkpoints of which manifest.Open takes none, though each piece of them fits.
func misfits(t *testing.T) map[api.Errno]point {
	t.Helper()
	good := pointOf(t, 2, 3, 5, 6)
	of := func(s api.FlowState, b []byte) point {
		p := good.change(func(m *api.Manifest) { m.Pieces = nil })
		p.pieces, p.state = nil, s
		for at := 0; at < len(b); at += 8 {
			piece := b[at:min(at+8, len(b))]
			p.pieces = append(p.pieces, piece)
			p.m.Pieces = append(p.m.Pieces, api.Piece{Len: len(piece), Sum: frame.Sum(piece)})
		}
		return p
	}
	form := slices.Concat(good.pieces...)
	state := slices.Concat(pointIn(t, one(), 8, 2, 3, 5).pieces...)
	l := map[api.Errno]point{
		api.ErrShort:    of(good.state, form[:len(form)-1]),
		api.ErrExtra:    of(good.state, append(slices.Clone(form), 0)),
		api.ErrState:    of(good.state, state),
		api.ErrManifest: good.change(func(m *api.Manifest) { m.Vector[1]++ }),
		api.ErrShape:    of(good.state, append([]byte{128}, form...)),
	}
	for err, p := range l {
		if _, e := manifest.Open(two(), p.m, p.pieces...); e != err {
			t.Fatalf("manifest.Open answers %d; want %d", e, err)
		}
	}
	return l
}

// TestP181PublishedMisfits: pieces that fit, and are no state, or another one than the manifest says.
func TestP181PublishedMisfits(t *testing.T) {
	for err, p := range misfits(t) {
		wantRefused(t, fmt.Sprint("misfit ", err), p.published(t))
	}
	none := pointOf(t, 2, 3, 5, 6).change(func(m *api.Manifest) { m.Pieces = nil })
	none.pieces = nil
	wantRefused(t, "no pieces", none.published(t))
	p := pointOf(t, 2, 3, 5, 6)
	wantRefused(t, "another Out", p.change(func(m *api.Manifest) { m.Out, m.Begin = m.Out+1, m.Begin+1 }).published(t))
	wantRefused(t, "another sum", p.change(func(m *api.Manifest) { m.Graph++ }).published(t))
}

// TestP181PublishedOfOtherGraphs: what is whole for one graph is no catalog of another one, though its states are the same.
func TestP181PublishedOfOtherGraphs(t *testing.T) {
	p, q, r := pointOf(t, 2, 3, 5, 6), pointIn(t, other(), 8, 2, 3, 5, 6), pointIn(t, one(), 8, 2, 3, 5)
	graphs := []api.Graph{two(), other(), one()}
	for i, p := range []point{p, q, r} {
		for j, g := range graphs {
			s := newStore(t, maxRoom, p.published(t))
			if i != j {
				wantNoCatalog(t, "another graph", s, g, 3, api.ErrCatalog)
				continue
			}
			c, e := catalog.Open(s, g, 3)
			want(t, "Open", e, api.OK)
			wantCatalog(t, "its own graph", c, p)
		}
	}
}

// TestP181BegunNotes: a NAME.p that is not what it must be is removed, and its pieces are.
func TestP181BegunNotes(t *testing.T) {
	p, q := pointOf(t, 2, 3, 5, 6), pointOf(t, 1, 1, 1, 1)
	for what, b := range notNotes(t, p) {
		for n := range len(p.pieces) + 1 {
			if n > 0 && n < len(p.pieces) && len(what) > 16 {
				continue
			}
			f := p.begun(t, n).and(files{"ck.2.3.p": b})
			wantNone(t, what, wantOpen(t, what, f, nil), p.key())
			wantNone(t, what, wantOpen(t, what, f.and(q.published(t)), q.published(t), q), p.key())
		}
	}
	alone := files{"ck.2.3.p": note(t, p.m)}
	wantNone(t, "without NAME.d", wantOpen(t, "without NAME.d", alone, nil), p.key())
	wantNone(t, "without NAME.d", wantOpen(t, "without NAME.d", alone.and(q.published(t)), q.published(t), q), p.key())
}

// TestP181BegunOfOtherGraphs: by the sum alone, as all else is seen when it is published.
func TestP181BegunOfOtherGraphs(t *testing.T) {
	for what, p := range map[string]point{
		"another graph's": pointIn(t, other(), 8, 2, 3, 5, 6),
		"of one":          pointIn(t, one(), 8, 2, 3, 5),
		"another sum":     pointOf(t, 2, 3, 5, 6).change(func(m *api.Manifest) { m.Graph++ }),
		"no sum":          pointOf(t, 2, 3, 5, 6).change(func(m *api.Manifest) { m.Graph = 0 }),
	} {
		wantNone(t, what, wantOpen(t, what, p.begun(t, 1), nil), p.key())
	}
	for err, p := range misfits(t) {
		n := len(p.pieces)
		wantBegun(t, fmt.Sprint(err), wantOpen(t, fmt.Sprint(err), p.begun(t, n), p.begun(t, n)), p, n)
	}
}

// TestP181BegunAndPublished: a NAME.p beside a NAME.m goes, and is in the way of no other one.
func TestP181BegunAndPublished(t *testing.T) {
	p, q := pointOf(t, 1, 3, 5, 6), pointOf(t, 2, 1, 7, 7)
	like := pointOf(t, 1, 3, 9, 9)
	for _, b := range [][]byte{note(t, p.m), note(t, like.m), {1}} {
		f := p.published(t).and(files{"ck.1.3.p": b})
		wantOpen(t, "beside NAME.m", f, p.published(t), p)
		c := wantOpen(t, "beside NAME.m", f.and(q.begun(t, 2)), p.published(t).and(q.begun(t, 2)), p)
		wantBegun(t, "the other one", c, q, 2)
	}
}

// TestP181OneIsBegun: of several good ones the first one by names stays.
func TestP181OneIsBegun(t *testing.T) {
	l := []point{pointOf(t, 1, 1, 1, 1), pointOf(t, 1, 10, 4, 4), pointOf(t, 1, 2, 2, 2), pointOf(t, 10, 1, 5, 5), pointOf(t, 2, 1, 3, 3), pointOf(t, 9, 1, 9, 9)}
	rising := slices.IsSortedFunc(l, func(a, b point) int {
		if a.name()+".p" < b.name()+".p" {
			return -1
		}
		return 1
	})
	if !rising {
		t.Fatal("the names do not rise")
	}
	for set := 1; set < 1<<len(l); set++ {
		f, first := files{}, -1
		for i, p := range l {
			if set>>i&1 == 0 {
				continue
			}
			f = f.and(p.begun(t, 1+i%2))
			if first < 0 {
				first = i
			}
		}
		c := wantOpen(t, fmt.Sprint(set), f, l[first].begun(t, 1+first%2))
		for i, p := range l {
			if i == first {
				wantBegun(t, fmt.Sprint(set), c, p, 1+i%2)
			} else {
				wantNone(t, fmt.Sprint(set), c, p.key())
			}
		}
	}
	// One that is not good ahead of others does not stay in their way.
	for what, b := range notNotes(t, l[2]) {
		f := l[2].begun(t, 1).and(files{"ck.1.2.p": b}, l[4].begun(t, 2), l[5].begun(t, 3))
		wantBegun(t, what, wantOpen(t, what, f, l[4].begun(t, 2)), l[4], 2)
	}
	published := l[0].published(t).and(l[0].begun(t, len(l[0].pieces)), l[2].begun(t, 2))
	wantBegun(t, "published", wantOpen(t, "published", published, l[0].published(t).and(l[2].begun(t, 2)), l[0]), l[2], 2)
	alone := files{"ck.1.1.p": note(t, l[0].m)}.and(l[4].begun(t, 0))
	wantBegun(t, "alone", wantOpen(t, "alone", alone, l[4].begun(t, 0)), l[4], 0)
}

// TestP181BegunPieces: so many as are whole and fit, from the first one on; what stands behind these is cut off.
func TestP181BegunPieces(t *testing.T) {
	p := pointOf(t, 2, 3, 5, 6)
	all := len(p.pieces)
	for n := range all + 1 {
		good := frames(t, p.pieces[:n]...)
		behind := map[string][]byte{
			"nothing":      nil,
			"a byte":       {0},
			"zeros":        make([]byte, 40),
			"an empty one": frames(t, nil),
			"no frame":     slices.Concat(p.pieces...),
			"another one":  frames(t, []byte("another piece")),
			"its manifest": note(t, p.m),
		}
		if n < all {
			next, turned := frames(t, p.pieces[n]), slices.Clone(p.pieces[n])
			turned[0] ^= 1
			for size := 1; size < len(next); size++ {
				behind[fmt.Sprint("torn at ", size)] = next[:size]
				damaged := slices.Clone(next)
				damaged[size] ^= 64
				behind[fmt.Sprint("turned at ", size)] = damaged
				behind[fmt.Sprint("turned at ", size, " ahead of others")] = append(damaged, frames(t, p.pieces[n+1:]...)...)
			}
			behind["another sum"] = frames(t, turned)
			behind["a longer one"] = frames(t, append(slices.Clone(p.pieces[n]), 0))
			behind["a shorter one"] = frames(t, p.pieces[n][:len(p.pieces[n])-1])
			behind["another one ahead of all"] = append(frames(t, turned), frames(t, p.pieces[n:]...)...)
		}
		if n < all-1 {
			behind["one left out"] = frames(t, p.pieces[n+1:]...)
		}
		if n > 0 {
			behind["the same again"] = frames(t, p.pieces[n-1])
			behind["all again"] = frames(t, p.pieces...)
		}
		for what, b := range behind {
			what = fmt.Sprint(what, " behind ", n)
			f := p.begun(t, n).and(files{"ck.2.3.d": append(slices.Clone(good), b...)})
			c := wantOpen(t, what, f, p.begun(t, n))
			wantBegun(t, what, c, p, n)
			// It goes on from there.
			finish(t, c, p, n)
			wantCatalog(t, what, c, p)
		}
	}
}

// TestP181BegunIsSynced: what was pending of the pieces is sure, whether something is cut off or not; what others have pending is not.
func TestP181BegunIsSynced(t *testing.T) {
	p := pointOf(t, 2, 3, 5, 6)
	for n := range len(p.pieces) {
		for _, more := range [][]byte{nil, {1, 2, 3}} {
			had := p.begun(t, n).and(files{"else": {1, 2, 3}})
			s := newStore(t, maxRoom, had)
			want(t, "Write", s.Write("else", 3, []byte{4}), api.OK)
			size, _ := s.Size("ck.2.3.d")
			want(t, "Write", s.Write("ck.2.3.d", size, append(frames(t, p.pieces[n]), more...)), api.OK)
			c := open(t, s, 1)
			wantBegun(t, "opened", c, p, n+1)
			if s.Pending() != 1 {
				t.Fatalf("there are %d pending", s.Pending())
			}
			for keep := range 2 {
				s := crashed(t, s, keep, 0)
				wantBegun(t, "behind a crash", open(t, s, 1), p, n+1)
				wantFiles(t, "behind a crash", s, p.begun(t, n+1).and(files{"else": []byte{1, 2, 3, 4}[:3+keep]}))
			}
		}
	}
}

// TestP181Lonely: each NAME.d without NAME.m or NAME.p is removed, also when NAME.p has just been.
func TestP181Lonely(t *testing.T) {
	p, q, r := pointOf(t, 2, 3, 5, 6), pointOf(t, 1, 1, 1, 1), pointOf(t, 3, 3, 9, 9)
	had := p.published(t).and(q.begun(t, 2))
	for _, b := range [][]byte{nil, {1}, frames(t, r.pieces...)} {
		f := had.and(files{"ck.3.3.d": b, "ck.1.2.d": b, "ck.2.1.d": b, "ck.9007199254740992.1.d": b})
		wantBegun(t, "lonely ones", wantOpen(t, "lonely ones", f, had, p), q, 2)
	}
	c := wantOpen(t, "behind NAME.p", had.and(r.begun(t, 1), files{"ck.3.3.p": {1}}), had, p)
	wantBegun(t, "behind NAME.p", c, q, 2)
	c = wantOpen(t, "behind NAME.t", had.and(files{"ck.3.3.t": note(t, r.m), "ck.3.3.d": nil}), had, p)
	wantNone(t, "behind NAME.t", c, r.key())
}

// TestP181Order: a fault of one that is published comes ahead of all that is done to those that are begun, and to lonely pieces.
func TestP181Order(t *testing.T) {
	p, q, r := pointOf(t, 1, 3, 5, 6), pointOf(t, 2, 1, 1, 1), pointOf(t, 2, 2, 1, 1)
	rest := q.begun(t, 1).and(r.begun(t, 1), files{"ck.3.3.d": {1}, "ck.4.4.p": {2}})
	rest["ck.2.1.d"] = append(rest["ck.2.1.d"], 9, 9)
	s := newStore(t, maxRoom, rest.and(p.published(t)))
	want(t, "Write", s.Write("ck.1.3.m", 0, []byte{77}), api.OK)
	had := tell(t, s)
	wantNoCatalog(t, "a fault", s, two(), 1, api.ErrCatalog)
	wantDisk(t, "a fault", s, had)
}

// TestP181Many: as many as a store takes files, in the order of keys, which is not that of names.
func TestP181Many(t *testing.T) {
	f := files{}
	var l []point
	for epoch := int64(1); epoch <= 12; epoch++ {
		for id := int64(1); id <= 12; id++ {
			p := pointOf(t, epoch*epoch*epoch, id*id*id, 1, 2)
			f = maps.Collect(maps.All(f.and(p.published(t))))
			l = append(l, p)
		}
	}
	wantOpen(t, "many", f, f, l...)
}
