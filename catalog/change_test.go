package catalog_test

import (
	"fmt"
	"slices"
	"testing"

	"pontoon/api"
	"pontoon/catalog"
	"pontoon/manifest"
	"pontoon/store"
)

// fill has a store have that much room left.
func fill(t *testing.T, s *store.Store, left int) {
	t.Helper()
	if s.Create("filler") != api.OK {
		want(t, "Cut", s.Cut("filler", 0), api.OK)
	}
	want(t, "Write", s.Write("filler", 0, make([]byte, s.Left()-left)), api.OK)
	want(t, "Sync", s.Sync("filler"), api.OK)
}

// crowd has a store have room for that many files more.
func crowd(t *testing.T, s *store.Store, left int) {
	t.Helper()
	n := len(slices.Collect(s.Names()))
	for i := range maxFiles - left - n {
		want(t, "Create", s.Create(fmt.Sprint("crowd.", i)), api.OK)
	}
}

// badManifests are those that manifest.Check refuses, of two.
func badManifests(t *testing.T) []api.Manifest {
	t.Helper()
	p := pointOf(t, 2, 3, 5, 6)
	l := []api.Manifest{{}, {Graph: p.m.Graph}}
	for _, f := range []func(m *api.Manifest){
		func(m *api.Manifest) { m.Epoch = 0 },
		func(m *api.Manifest) { m.Epoch = end + 1 },
		func(m *api.Manifest) { m.Id = -1 },
		func(m *api.Manifest) { m.Vector = nil },
		func(m *api.Manifest) { m.Vector[0] = -1 },
		func(m *api.Manifest) { m.Out = end + 1 },
		func(m *api.Manifest) { m.Begin = m.Out + 1 },
		func(m *api.Manifest) { m.Begin++ },
		func(m *api.Manifest) { m.Records = nil },
		func(m *api.Manifest) { m.Pieces[1].Len = 0 },
		func(m *api.Manifest) { m.Pieces[0].Len = 4097 },
		func(m *api.Manifest) { m.Pieces = make([]api.Piece, 513) },
	} {
		l = append(l, p.change(f).m)
	}
	for _, m := range l {
		want(t, "manifest.Check", manifest.Check(m), api.ErrManifest)
	}
	return l
}

// wantNothing tells that a call answers that error and changes nothing.
func wantNothing(t *testing.T, what string, s *store.Store, err api.Errno, call func() api.Errno) {
	t.Helper()
	had := tell(t, s)
	want(t, what, call(), err)
	wantDisk(t, what, s, had)
}

func TestP182Begin(t *testing.T) {
	for _, p := range []point{
		pointOf(t, 1, 1, 0, 0), pointOf(t, end, end, end, end), pointOf(t, 7, 300, 5, 6),
		pointOf(t, 2, 3, 5, 6).change(func(m *api.Manifest) { m.Pieces = nil }),
		pointOf(t, 2, 3, 5, 6).change(func(m *api.Manifest) { m.Vector = []int64{1, 2, 3, 4} }),
		pointOf(t, 2, 3, 5, 6).change(func(m *api.Manifest) { m.Vector = []int64{1} }),
		misfits(t)[api.ErrState],
	} {
		s := newStore(t, maxRoom, files{"else": {1}})
		c := open(t, s, 1)
		want(t, "Begin", c.Begin(p.m), api.OK)
		wantFiles(t, "Begin", s, p.begun(t, 0).and(files{"else": {1}}))
		wantBegun(t, "Begin", c, p, 0)
		wantCatalog(t, "Begin", c)
		wantBegun(t, "opened again", open(t, s, 1), p, 0)
	}
}

// TestP182BeginRefused: each error, with one begun and one published, which stay so.
func TestP182BeginRefused(t *testing.T) {
	p, q := pointOf(t, 1, 3, 5, 6), pointOf(t, 2, 1, 7, 7)
	s := newStore(t, maxRoom, p.published(t).and(q.begun(t, 2)))
	c := open(t, s, 3)
	refused := func(err api.Errno, m api.Manifest) {
		t.Helper()
		wantNothing(t, "Begin", s, err, func() api.Errno { return c.Begin(m) })
		wantCatalog(t, "refused", c, p)
		wantBegun(t, "refused", c, q, 2)
	}
	for _, m := range badManifests(t) {
		refused(api.ErrManifest, m)
	}
	for _, m := range []api.Manifest{
		p.change(func(m *api.Manifest) { m.Graph++ }).m, // published, but Graph comes first
		q.change(func(m *api.Manifest) { m.Graph = 0 }).m,
		pointOf(t, 9, 9, 9, 9).change(func(m *api.Manifest) { m.Graph ^= 1 << 31 }).m,
		pointIn(t, other(), 8, 9, 9, 9, 9).m,
		pointIn(t, one(), 8, 9, 9, 9).m,
	} {
		refused(api.ErrManifest, m)
	}
	for range 3 {
		refused(api.ErrTwice, p.m)
		refused(api.ErrTwice, pointOf(t, 1, 3, 8, 8).m)
		refused(api.ErrTwice, p.change(func(m *api.Manifest) { m.Pieces = nil }).m)
	}
	want(t, "Crash", s.Crash(0, 0), api.OK)
	for _, m := range append(badManifests(t), p.m, q.m, pointIn(t, one(), 8, 9, 9, 9).m) {
		wantNothing(t, "Begin of one that is down", s, api.ErrDown, func() api.Errno { return c.Begin(m) })
		wantNothing(t, "Begin of none", s, api.ErrMade, func() api.Errno { return (*catalog.Catalog)(nil).Begin(m) })
		wantNothing(t, "Begin of zero", s, api.ErrMade, func() api.Errno { return new(catalog.Catalog).Begin(m) })
	}
	want(t, "Start", s.Start(), api.OK)
	wantCatalog(t, "up again", c, p)
	finish(t, c, q, 2)
	wantCatalog(t, "up again", c, p, q)
}

// TestP182BeginAgain: of what is begun and the same nothing happens; what differs in anything takes its place.
func TestP182BeginAgain(t *testing.T) {
	p := pointOf(t, 2, 3, 5, 6)
	for n := range len(p.pieces) + 1 {
		s := newStore(t, maxRoom, nil)
		c := open(t, s, 3)
		put(t, c, p, n)
		for range 3 {
			wantNothing(t, "Begin again", s, api.OK, func() api.Errno { return c.Begin(manifest.Clone(p.m)) })
			wantBegun(t, "the same", c, p, n)
		}
		for i, f := range []func(m *api.Manifest){
			func(m *api.Manifest) { m.Vector[0]++ },
			func(m *api.Manifest) { m.Vector = m.Vector[:1] },
			func(m *api.Manifest) { m.Out, m.Begin = m.Out+1, m.Begin+1 },
			func(m *api.Manifest) { m.Begin++; m.Records = m.Records[1:] },
			func(m *api.Manifest) { m.Records[0].Val++ },
			func(m *api.Manifest) { m.Records[2].Key++ },
			func(m *api.Manifest) { m.Pieces[0].Sum++ },
			func(m *api.Manifest) { m.Pieces[1].Len++ },
			func(m *api.Manifest) { m.Pieces = m.Pieces[:2] },
			func(m *api.Manifest) { m.Pieces = nil },
			func(m *api.Manifest) { m.Id++ },
			func(m *api.Manifest) { m.Id-- },
			func(m *api.Manifest) { m.Epoch++ },
			func(m *api.Manifest) { m.Epoch-- },
			func(m *api.Manifest) { m.Epoch, m.Id = m.Id, m.Epoch },
		} {
			q := p.change(f)
			s := newStore(t, maxRoom, p.begun(t, n))
			c := open(t, s, 3)
			want(t, "Begin", c.Begin(q.m), api.OK)
			wantFiles(t, fmt.Sprint("another one ", i), s, q.begun(t, 0))
			wantBegun(t, "another one", c, q, 0)
			if q.key() != p.key() {
				wantNone(t, "what was begun", c, p.key())
			}
		}
	}
}

// TestP182BeginEmptyLists: empty and nil ones are the same.
func TestP182BeginEmptyLists(t *testing.T) {
	p := pointOf(t, 2, 3, 0, 0)
	if len(p.m.Records) != 0 {
		t.Fatal("there are records")
	}
	s := newStore(t, maxRoom, nil)
	c := open(t, s, 3)
	put(t, c, p, 2)
	for _, l := range [][]api.Record{nil, {}, make([]api.Record, 0, 7)} {
		m := manifest.Clone(p.m)
		m.Records = l
		wantNothing(t, "Begin again", s, api.OK, func() api.Errno { return c.Begin(m) })
		wantBegun(t, "the same", c, p, 2)
	}
}

// TestP182BeginNoFile: with one file more, or with none, as the store counts them; the one that is begun is gone by then.
func TestP182BeginNoFile(t *testing.T) {
	p, q := pointOf(t, 2, 3, 5, 6), pointOf(t, 2, 4, 5, 6)
	for left := range 4 {
		s := newStore(t, maxRoom, nil)
		c := open(t, s, 3)
		crowd(t, s, left)
		had := tell(t, s)
		for range 2 {
			if left < 2 {
				want(t, "Begin", c.Begin(p.m), api.ErrFull)
				wantDisk(t, "no file", s, had)
				wantNone(t, "no file", c, p.key())
			} else {
				want(t, "Begin", c.Begin(p.m), api.OK)
				wantBegun(t, "a file", c, p, 0)
			}
		}
	}
	// What was begun leaves room for two files; somebody else takes one of them, or both.
	for left := -2; left <= 0; left++ {
		s := newStore(t, maxRoom, p.begun(t, 2))
		c := open(t, s, 3)
		crowd(t, s, 0)
		for i := range -left {
			want(t, "Remove", s.Remove(p.name()+[]string{".d", ".p"}[i]), api.OK)
			want(t, "Create", s.Create(fmt.Sprint("more.", i)), api.OK)
		}
		if left < 0 {
			want(t, "Begin", c.Begin(q.m), api.ErrFull)
			wantNone(t, "no file", c, q.key())
		} else {
			want(t, "Begin", c.Begin(q.m), api.OK)
			wantBegun(t, "a file", c, q, 0)
		}
		wantNone(t, "what was begun", c, p.key())
		for name := range s.Names() {
			if name[:3] == "ck." && left < 0 {
				t.Errorf("%s is there", name)
			}
		}
	}
}

// TestP182BeginNoRoom: to the byte; what is begun is taken away ahead of that, and stays away.
func TestP182BeginNoRoom(t *testing.T) {
	p, q := pointOf(t, 2, 3, 5, 6), pointOf(t, 2, 4, 50, 60)
	size := len(note(t, q.m))
	for left := range size + 3 {
		s := newStore(t, 20000, files{"else": {1}})
		c := open(t, s, 3)
		fill(t, s, left)
		had := tell(t, s)
		if left < size {
			for range 2 {
				want(t, "Begin", c.Begin(q.m), api.ErrRoom)
				wantDisk(t, "no room", s, had)
				wantNone(t, "no room", c, q.key())
			}
		} else {
			want(t, "Begin", c.Begin(q.m), api.OK)
			wantBegun(t, "room", c, q, 0)
			if s.Left() != left-size {
				t.Errorf("%d is left", s.Left())
			}
		}
	}
	for n := range len(p.pieces) {
		has := len(note(t, p.m)) + len(frames(t, p.pieces[:n]...))
		for more := range 3 {
			left := size - has + more - 1
			if left < 0 {
				continue
			}
			s := newStore(t, 20000, p.begun(t, n).and(pointOf(t, 1, 1, 1, 1).published(t)))
			c := open(t, s, 3)
			fill(t, s, left)
			if more == 0 {
				want(t, "Begin", c.Begin(q.m), api.ErrRoom)
				wantNone(t, "no room", c, q.key())
			} else {
				want(t, "Begin", c.Begin(q.m), api.OK)
				wantBegun(t, "room", c, q, 0)
			}
			wantNone(t, "what was begun", c, p.key())
			wantCatalog(t, "what is published", c, pointOf(t, 1, 1, 1, 1))
			filler, _ := s.Size("filler")
			then := files{"filler": make([]byte, filler)}.and(pointOf(t, 1, 1, 1, 1).published(t))
			if more > 0 {
				then = then.and(q.begun(t, 0))
			}
			wantFiles(t, "behind Begin", s, then)
		}
	}
}

// TestP182BeginNames: files that somebody else made in the meantime are the store's errors, and gone behind them.
func TestP182BeginNames(t *testing.T) {
	p := pointOf(t, 2, 3, 5, 6)
	for _, made := range [][]string{{".d"}, {".t"}, {".d", ".t"}} {
		s := newStore(t, maxRoom, nil)
		c := open(t, s, 3)
		for _, ending := range made {
			want(t, "Create", s.Create(p.name()+ending), api.OK)
		}
		want(t, "Begin", c.Begin(p.m), api.ErrName)
		wantFiles(t, fmt.Sprint(made), s, nil)
		wantNone(t, fmt.Sprint(made), c, p.key())
		want(t, "Begin", c.Begin(p.m), api.OK)
		wantFiles(t, "again", s, p.begun(t, 0))
	}
}

func TestP182Put(t *testing.T) {
	p := pointOf(t, 2, 3, 5, 6)
	s := newStore(t, maxRoom, files{"else": {1, 2}})
	want(t, "Write", s.Write("else", 0, []byte{3}), api.OK)
	c := open(t, s, 3)
	want(t, "Begin", c.Begin(p.m), api.OK)
	for n, b := range p.pieces {
		wantBegun(t, "ahead of Put", c, p, n)
		want(t, "Put", c.Put(p.key(), n, b), api.OK)
		wantBegun(t, "Put", c, p, n+1)
		// It is sure, and what others have pending is not.
		if s.Pending() != 1 {
			t.Fatalf("%d are pending", s.Pending())
		}
		again := crashed(t, s, 0, 0)
		wantFiles(t, "behind a crash", again, p.begun(t, n+1).and(files{"else": {1, 2}}))
		wantBegun(t, "behind a crash", open(t, again, 3), p, n+1)
	}
	wantCatalog(t, "all are put", c)
}

// TestP182PutRefused: each error in its order, with so many pieces there.
func TestP182PutRefused(t *testing.T) {
	p, q, r := pointOf(t, 2, 3, 5, 6), pointOf(t, 1, 1, 1, 1), pointOf(t, 3, 2, 9, 9)
	for n := range len(p.pieces) + 1 {
		s := newStore(t, maxRoom, q.published(t).and(p.begun(t, n)))
		c := open(t, s, 3)
		refused := func(err api.Errno, k api.TxnKey, piece int, b []byte) {
			t.Helper()
			wantNothing(t, fmt.Sprint("Put ", k, piece, " at ", n), s, err, func() api.Errno { return c.Put(k, piece, b) })
			wantBegun(t, "refused", c, p, n)
			wantCatalog(t, "refused", c, q)
		}
		for _, k := range []api.TxnKey{q.key(), r.key(), {}, key(2, 2), key(2, 4), key(1, 3), key(-2, -3), key(3, 2)} {
			for _, piece := range []int{least, -1, 0, n, n + 1, most} {
				refused(api.ErrNone, k, piece, p.pieces[min(n, len(p.pieces)-1)])
				refused(api.ErrNone, k, piece, nil)
			}
		}
		for _, piece := range []int{least, least + 1, -1000, -2, -1} {
			refused(api.ErrPast, p.key(), piece, p.pieces[0])
			refused(api.ErrPast, p.key(), piece, nil)
		}
		for piece := range n {
			refused(api.ErrPast, p.key(), piece, p.pieces[piece])
			refused(api.ErrPast, p.key(), piece, []byte{1})
		}
		for _, piece := range []int{n + 1, n + 2, len(p.pieces), len(p.pieces) + 1, 512, 513, 1 << 32, 1<<32 + n, most} {
			if piece > n || n == len(p.pieces) {
				refused(api.ErrArg, p.key(), piece, p.pieces[min(piece, len(p.pieces)-1)])
				refused(api.ErrArg, p.key(), piece, nil)
			}
		}
		if n == len(p.pieces) {
			refused(api.ErrArg, p.key(), n, p.pieces[n-1])
			continue
		}
		for i, b := range p.pieces {
			if i != n {
				refused(api.ErrSnap, p.key(), n, b)
			}
		}
		piece := p.pieces[n]
		refused(api.ErrSnap, p.key(), n, nil)
		refused(api.ErrSnap, p.key(), n, []byte{})
		refused(api.ErrSnap, p.key(), n, piece[:len(piece)-1])
		refused(api.ErrSnap, p.key(), n, append(slices.Clone(piece), 0))
		refused(api.ErrSnap, p.key(), n, frames(t, piece))
		refused(api.ErrSnap, p.key(), n, make([]byte, 1<<19))
		for bit := range 8 * len(piece) {
			turned := slices.Clone(piece)
			turned[bit/8] ^= 1 << (bit % 8)
			refused(api.ErrSnap, p.key(), n, turned)
		}
		want(t, "Put", c.Put(p.key(), n, piece), api.OK)
		wantBegun(t, "Put", c, p, n+1)
	}
}

// TestP182PutNowhere: with none begun, of one that is down, and of no catalog.
func TestP182PutNowhere(t *testing.T) {
	p := pointOf(t, 2, 3, 5, 6)
	for _, f := range []files{nil, p.published(t)} {
		s := newStore(t, maxRoom, f)
		c := open(t, s, 3)
		for piece := -1; piece < 9; piece++ {
			wantNothing(t, "Put", s, api.ErrNone, func() api.Errno { return c.Put(p.key(), piece, p.pieces[0]) })
			wantNothing(t, "Put", s, api.ErrNone, func() api.Errno { return c.Put(key(0, 0), piece, nil) })
		}
	}
	s := newStore(t, maxRoom, p.begun(t, 1))
	c := open(t, s, 3)
	want(t, "Crash", s.Crash(0, 0), api.OK)
	for piece := -1; piece < 9; piece++ {
		for _, k := range []api.TxnKey{p.key(), key(9, 9)} {
			wantNothing(t, "Put of one that is down", s, api.ErrDown, func() api.Errno { return c.Put(k, piece, p.pieces[1]) })
			wantNothing(t, "Put of none", s, api.ErrMade, func() api.Errno { return (*catalog.Catalog)(nil).Put(k, piece, nil) })
			wantNothing(t, "Put of zero", s, api.ErrMade, func() api.Errno { return new(catalog.Catalog).Put(k, piece, nil) })
		}
	}
	want(t, "Start", s.Start(), api.OK)
	finish(t, c, p, 1)
	wantCatalog(t, "up again", c, p)
}

// TestP182PutNoRoom: to the byte; with room again it goes on.
func TestP182PutNoRoom(t *testing.T) {
	p := pointOf(t, 2, 3, 5, 6)
	s := newStore(t, 20000, nil)
	c := open(t, s, 3)
	want(t, "Begin", c.Begin(p.m), api.OK)
	for n, b := range p.pieces {
		size := len(b) + 12
		for left := range size {
			fill(t, s, left)
			wantNothing(t, "Put without room", s, api.ErrRoom, func() api.Errno { return c.Put(p.key(), n, b) })
			wantBegun(t, "no room", c, p, n)
		}
		fill(t, s, size)
		want(t, "Put with just room", c.Put(p.key(), n, b), api.OK)
		wantBegun(t, "just room", c, p, n+1)
	}
	// It needs no file, nor does Publish; and none of them needs room for it.
	crowd(t, s, 0)
	want(t, "Publish", c.Publish(p.key()), api.OK)
	wantCatalog(t, "no room", c, p)
}

// TestP182PutNoFile: the store's error of a NAME.d that somebody else removed.
func TestP182PutNoFile(t *testing.T) {
	p := pointOf(t, 2, 3, 5, 6)
	s := newStore(t, maxRoom, p.begun(t, 1))
	c := open(t, s, 3)
	want(t, "Remove", s.Remove("ck.2.3.d"), api.OK)
	wantNothing(t, "Put", s, api.ErrNone, func() api.Errno { return c.Put(p.key(), 1, p.pieces[1]) })
	wantNext(t, "Put", c, p.key(), 1)
}

func TestP183Publish(t *testing.T) {
	l := []point{pointOf(t, 1, 1, 0, 0), pointOf(t, 1, 2, 5, 6), pointOf(t, 1, 10, 7, 7), pointOf(t, 2, 1, 8, 9), pointOf(t, 10, 3, 8, 9)}
	s := newStore(t, maxRoom, files{"else": {1}})
	c := open(t, s, 8)
	for n, p := range l {
		publish(t, c, p)
		wantCatalog(t, "Publish", c, l[:n+1]...)
		wantFiles(t, "Publish", s, allOf(t, l[:n+1]...).and(files{"else": {1}}))
		wantCatalog(t, "opened again", open(t, crashed(t, s, 0, 0), 8), l[:n+1]...)
		// It is begun no more.
		wantNothing(t, "Publish again", s, api.ErrNone, func() api.Errno { return c.Publish(p.key()) })
		wantNothing(t, "Put behind it", s, api.ErrNone, func() api.Errno { return c.Put(p.key(), 0, p.pieces[0]) })
	}
}

func TestP183PublishRefused(t *testing.T) {
	p, q, r := pointOf(t, 2, 3, 5, 6), pointOf(t, 1, 1, 1, 1), pointOf(t, 3, 2, 9, 9)
	for n := range len(p.pieces) + 1 {
		s := newStore(t, maxRoom, q.published(t).and(p.begun(t, n)))
		c := open(t, s, 1)
		for _, k := range []api.TxnKey{q.key(), r.key(), {}, key(2, 2), key(3, 2), key(1, 3), key(2, 4), key(-2, 3)} {
			wantNothing(t, "Publish of another", s, api.ErrNone, func() api.Errno { return c.Publish(k) })
		}
		if n < len(p.pieces) {
			wantNothing(t, "Publish", s, api.ErrPieces, func() api.Errno { return c.Publish(p.key()) })
			wantBegun(t, "refused", c, p, n)
			wantCatalog(t, "refused", c, q)
		}
		want(t, "Crash", s.Crash(0, 0), api.OK)
		for _, k := range []api.TxnKey{p.key(), q.key(), {}} {
			wantNothing(t, "Publish of one that is down", s, api.ErrDown, func() api.Errno { return c.Publish(k) })
			wantNothing(t, "Publish of none", s, api.ErrMade, func() api.Errno { return (*catalog.Catalog)(nil).Publish(k) })
			wantNothing(t, "Publish of zero", s, api.ErrMade, func() api.Errno { return new(catalog.Catalog).Publish(k) })
		}
		want(t, "Start", s.Start(), api.OK)
		finish(t, c, p, n)
		wantCatalog(t, "up again", c, p)
	}
	s := newStore(t, maxRoom, nil)
	c := open(t, s, 1)
	wantNothing(t, "Publish of nothing", s, api.ErrNone, func() api.Errno { return c.Publish(key(0, 0)) })
}

// TestP183Misfits: what manifest.Open does not take is not published, and stays begun; missing pieces come first.
func TestP183Misfits(t *testing.T) {
	l := misfits(t)
	none := pointOf(t, 2, 3, 5, 6).change(func(m *api.Manifest) { m.Pieces = nil })
	none.pieces = nil
	for err, p := range l {
		for _, p := range []point{p, none} {
			if len(p.pieces) == 0 {
				err = api.ErrShort
			}
			s := newStore(t, maxRoom, nil)
			c := open(t, s, 1)
			want(t, "Begin", c.Begin(p.m), api.OK)
			for n, b := range p.pieces {
				wantNothing(t, "Publish", s, api.ErrPieces, func() api.Errno { return c.Publish(p.key()) })
				want(t, "Put", c.Put(p.key(), n, b), api.OK)
			}
			for range 2 {
				wantNothing(t, "Publish of a misfit", s, err, func() api.Errno { return c.Publish(p.key()) })
				wantBegun(t, "a misfit", c, p, len(p.pieces))
				wantCatalog(t, "a misfit", c)
			}
			// Another one takes its place.
			q := pointOf(t, 2, 3, 7, 7)
			publish(t, c, q)
			wantCatalog(t, "another one", c, q)
			wantFiles(t, "another one", s, q.published(t))
		}
	}
}

// TestP183Damaged: what somebody else did to the pieces is seen ahead of publishing.
func TestP183Damaged(t *testing.T) {
	p := pointOf(t, 2, 3, 5, 6)
	for what, b := range notPieces(t, p) {
		s := newStore(t, maxRoom, p.begun(t, len(p.pieces)))
		c := open(t, s, 1)
		want(t, "Cut", s.Cut("ck.2.3.d", 0), api.OK)
		want(t, "Write", s.Write("ck.2.3.d", 0, b), api.OK)
		had := tell(t, s)
		if e := c.Publish(p.key()); e != api.ErrSnap && e != api.ErrCatalog {
			t.Fatalf("%s: Publish answers %d", what, e)
		}
		wantDisk(t, what, s, had)
		wantCatalog(t, what, c)
	}
	s := newStore(t, maxRoom, p.begun(t, len(p.pieces)))
	c := open(t, s, 1)
	want(t, "Remove", s.Remove("ck.2.3.p"), api.OK)
	wantNothing(t, "Publish", s, api.ErrNone, func() api.Errno { return c.Publish(p.key()) })
	wantCatalog(t, "without NAME.p", c)
	want(t, "Remove", s.Remove("ck.2.3.d"), api.OK)
	wantNothing(t, "Publish", s, api.ErrNone, func() api.Errno { return c.Publish(p.key()) })
}

// TestP183TakenAway: of more than keep the least one goes, by keys and not by names or time; also if that is the one just published.
func TestP183TakenAway(t *testing.T) {
	keys := []api.TxnKey{key(1, 1), key(1, 2), key(1, 10), key(2, 1), key(2, 2), key(9, 1), key(10, 1), key(10, 9)}
	for keep := 1; keep <= 4; keep++ {
		for turn := range 40 {
			s := newStore(t, maxRoom, files{"else": {1}})
			c := open(t, s, keep)
			var have []api.TxnKey
			for i := range keys {
				k := keys[(i*[]int{1, 3, 5, 7}[turn%4]+turn/4)%8]
				p := pointOf(t, k.Epoch, k.Id, 5, 6)
				publish(t, c, p)
				have = append(have, k)
				slices.SortFunc(have, func(a, b api.TxnKey) int {
					return int(1000*(a.Epoch-b.Epoch) + a.Id - b.Id)
				})
				have = have[max(len(have)-keep, 0):]
				var l []point
				for _, k := range have {
					l = append(l, pointOf(t, k.Epoch, k.Id, 5, 6))
				}
				wantCatalog(t, fmt.Sprint("Publish ", k), c, l...)
				wantFiles(t, fmt.Sprint("Publish ", k), s, allOf(t, l...).and(files{"else": {1}}))
				if !slices.Contains(have, k) {
					wantNone(t, "just published", c, k)
				}
			}
		}
	}
}
