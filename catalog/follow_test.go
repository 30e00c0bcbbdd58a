package catalog_test

import (
	"fmt"
	"math/rand"
	"slices"
	"testing"

	"pontoon/api"
	"pontoon/catalog"
	"pontoon/manifest"
	"pontoon/sink"
	"pontoon/store"
)

// watcher holds a catalog against P18.5 to P18.7; it knows what was handed in and answered alone.
type watcher struct {
	keep      int
	published []held
	begun     *held
	opened    int // how many were published when it was opened
}

// step does an act, and looks at what comes of it; it answers the error.
func (w *watcher) step(t *testing.T, c *catalog.Catalog, a act) api.Errno {
	t.Helper()
	was, is := c.Latest()
	n, e := do(c, a)
	switch {
	case a.kind == begin && e == api.OK:
		if w.begun == nil || !manifest.Same(w.begun.m, a.m) {
			w.begun = &held{m: manifest.Clone(a.m)}
		}
	case a.kind == begin && (e == api.ErrRoom || e == api.ErrFull):
		w.begun = nil
	case e != api.OK:
	case a.kind == putOne:
		w.begun = &held{w.begun.m, append(slices.Clone(w.begun.pieces), slices.Clone(a.b))}
	case a.kind == publishOne:
		w.publish()
	case a.kind == above:
		w.above(t, a.vector, n)
	}
	now, still := c.Latest()
	// P18.7, told by Latest alone.
	if is && a.kind != above && (!still || manifest.Less(manifest.Key(now), manifest.Key(was))) {
		t.Fatalf("P18.7: %v: the latest is %v; it was %v", a, now, was)
	}
	if is && a.kind != publishOne && a.kind != above && !manifest.Same(now, was) {
		t.Fatalf("P18.7: %v: the latest is %v; it was %v", a, now, was)
	}
	return e
}

// publish has what is begun be published, and the least ones of more than keep be gone.
func (w *watcher) publish() {
	all := append(slices.Clone(w.published), *w.begun)
	slices.SortFunc(all, func(a, b held) int {
		if manifest.Less(a.key(), b.key()) {
			return -1
		}
		return 1
	})
	w.published, w.begun = all[max(len(all)-w.keep, 0):], nil
}

func (w *watcher) above(t *testing.T, vector []int64, n int) {
	t.Helper()
	out := func(h held) bool { return !sink.Above(vector, h.m.Vector) }
	if w.begun != nil && out(*w.begun) {
		w.begun = nil
	}
	had := len(w.published)
	w.published = slices.DeleteFunc(slices.Clone(w.published), out)
	if n != had-len(w.published) {
		t.Fatalf("Above(%v) answers %d; want %d", vector, n, had-len(w.published))
	}
}

// holds tells that c has what the watcher knows of.
func (w *watcher) holds(t *testing.T, what string, c *catalog.Catalog, up bool) {
	t.Helper()
	if len(w.published) > max(w.keep, w.opened) {
		t.Fatalf("P18.7: %s: %d are published", what, len(w.published))
	}
	wantHeld(t, what, c, two(), up, w.published, w.begun)
}

// lasts opens what a crash leaves of s, and looks whether it is what it was.
func (w *watcher) lasts(t *testing.T, what string, s *store.Store, keep, torn int) (*store.Store, *catalog.Catalog) {
	t.Helper()
	s = s.Clone()
	if s.Up() {
		want(t, what, s.Crash(keep, torn), api.OK)
	}
	want(t, what, s.Start(), api.OK)
	c := open(t, s, w.keep)
	w.holds(t, fmt.Sprint("P18.6: ", what, ", behind Crash ", keep, " ", torn), c, true)
	return s, c
}

// TestP185P186P187LongWays: calls, crashes and openings, with what others have pending, with room for all and for less.
func TestP185P186P187LongWays(t *testing.T) {
	r := rand.New(rand.NewSource(185))
	x := newPool(t)
	seen := map[api.Errno]int{}
	for way := range 60 {
		room := 20000
		if way%2 == 1 {
			room = 250 + r.Intn(500)
		}
		s := newStore(t, room, files{"else": {1, 2, 3}})
		w := &watcher{keep: 1 + r.Intn(4)}
		c := open(t, s, w.keep)
		for range 150 {
			a := x.act(r, w.begun)
			s.Write("else", r.Intn(4), make([]byte, r.Intn(4)))
			seen[w.step(t, c, a)]++
			w.holds(t, a.String(), c, true)
			if r.Intn(6) == 0 {
				w.lasts(t, a.String(), s, r.Int(), r.Int())
			}
			switch r.Intn(30) {
			case 0:
				s, c = w.lasts(t, a.String(), s, r.Int(), r.Int())
			case 1:
				want(t, "Crash", s.Crash(r.Int(), r.Int()), api.OK)
				want(t, "down", w.step(t, c, x.act(r, w.begun)), api.ErrDown)
				w.holds(t, "down", c, false)
				s, c = w.lasts(t, "behind a call while it was down", s, 0, 0)
			case 2:
				w.keep, w.opened = 1+r.Intn(4), len(w.published)
				c = open(t, s, w.keep)
				w.holds(t, "opened again", c, true)
			case 3:
				// The same catalog goes on behind a crash.
				want(t, "Crash", s.Crash(r.Int(), r.Int()), api.OK)
				want(t, "Start", s.Start(), api.OK)
				w.holds(t, "started", c, true)
			}
		}
	}
	for _, e := range []api.Errno{api.OK, api.ErrRoom, api.ErrTwice, api.ErrPieces, api.ErrSnap, api.ErrManifest} {
		if seen[e] < 50 {
			t.Errorf("%d was answered just %d times", e, seen[e])
		}
	}
}

// wantMoment tells that behind a crash in the midst of a call there is what was there at that moment; of a piece that was being put all or nothing.
func wantMoment(t *testing.T, what string, keepers int, l []moment, i, keep, torn int) (*store.Store, *catalog.Catalog, moment) {
	t.Helper()
	s := l[i].store.Clone()
	want(t, what, s.Crash(keep, torn), api.OK)
	want(t, what, s.Start(), api.OK)
	what = fmt.Sprint("P18.5: ", what, ", moment ", i, ", behind Crash ", keep, " ", torn)
	c := open(t, s, keepers)
	now := l[i]
	if now.begun != nil && i+1 < len(l) && l[i+1].begun != nil && len(l[i+1].begun.pieces) > len(now.begun.pieces) {
		if n, _ := c.Next(now.begun.key()); n > len(now.begun.pieces) {
			now = l[i+1]
		}
	}
	wantHeld(t, what, c, two(), true, now.published, now.begun)
	return s, c, now
}

// momentsOf are those of a call, from what is behind its first one of the store's calls on; s stays as it is.
func momentsOf(t *testing.T, s *store.Store, keep int, a act) []moment {
	t.Helper()
	// A clone that is opened has no pending writes of its own.
	x, e := modelOpen(s.Clone(), two(), keep)
	want(t, "the model's Open", e, api.OK)
	x.do(a)
	return x.moments
}

// TestP185AnyMoment: a crash between any two of the store's calls, whatever it keeps and tears, leaves what is whole, and the ways go on from there.
func TestP185AnyMoment(t *testing.T) {
	r := rand.New(rand.NewSource(186))
	x := newPool(t)
	seen := map[string]int{}
	for range 12 {
		s := newStore(t, 20000, files{"else": {1, 2, 3}})
		w := &watcher{keep: 1 + r.Intn(3)}
		c := open(t, s, w.keep)
		for range 40 {
			for range r.Intn(3) {
				want(t, "Write", s.Write("else", r.Intn(3), make([]byte, 1+r.Intn(3))), api.OK)
			}
			a := x.act(r, w.begun)
			l := momentsOf(t, s, w.keep, a)
			w.step(t, c, a)
			for i := range l {
				pending := l[i].store.Pending()
				for keep := range pending + 1 {
					for _, torn := range []int{0, 1 + r.Intn(5), 6 + r.Intn(40)} {
						_, _, now := wantMoment(t, a.String(), w.keep, l, i, keep, torn)
						seen[fmt.Sprint(a.kind)]++
						if len(now.published) > w.keep {
							seen["not taken away yet"]++
						}
						if a.kind == begin && now.begun == nil {
							seen["nothing begun"]++
						}
					}
				}
			}
			w.holds(t, a.String(), c, true)
			if len(l) > 0 && r.Intn(10) == 0 {
				var now moment
				s, c, now = wantMoment(t, a.String(), w.keep, l, r.Intn(len(l)), r.Int(), r.Int())
				w.published, w.begun, w.opened = now.published, now.begun, len(now.published)
			}
		}
	}
	for _, what := range []string{"0", "1", "2", "3", "not taken away yet", "nothing begun"} {
		if seen[what] < 50 {
			t.Errorf("of %s there were just %d", what, seen[what])
		}
	}
}

// TestP186TornPieces: each piece that is being put, torn anywhere: it is there or it is not, and those ahead of it are.
func TestP186TornPieces(t *testing.T) {
	p := pointOf(t, 1, 1, 3, 4)
	for n, b := range p.pieces {
		s := newStore(t, 20000, p.begun(t, n))
		size, _ := s.Size("ck.1.1.d")
		framed := frames(t, b)
		want(t, "Write", s.Write("ck.1.1.d", size, framed), api.OK)
		for torn := range len(framed) + 1 {
			at := crashed(t, s, 0, torn)
			c := open(t, at, 1)
			there := n
			if torn == len(framed) {
				there++
			}
			wantBegun(t, fmt.Sprint("torn at ", torn), c, p, there)
			wantFiles(t, fmt.Sprint("torn at ", torn), at, p.begun(t, there))
			finish(t, c, p, there)
			wantCatalog(t, "it goes on", c, p)
		}
	}
}

// TestP185TornManifest: one that is being written, torn anywhere, is not there, nor is what was begun ahead of it.
func TestP185TornManifest(t *testing.T) {
	p, q := pointOf(t, 1, 1, 3, 4), pointOf(t, 1, 2, 3, 4)
	l := momentsOf(t, newStore(t, 20000, p.begun(t, 2)), 1, act{kind: begin, m: q.m})
	if len(l) != 7 {
		t.Fatalf("there are %d moments", len(l))
	}
	for i := range l {
		for torn := range len(note(t, q.m)) + 1 {
			s, c, now := wantMoment(t, "Begin", 1, l, i, 0, torn)
			if (now.begun != nil) != (i == 6) {
				t.Fatalf("behind the moment %d: %v is begun", i, now.begun)
			}
			if i < 6 {
				wantFiles(t, "Begin", s, nil)
			}
			want(t, "Begin", c.Begin(q.m), api.OK)
			finish(t, c, q, 0)
			wantCatalog(t, "it goes on", c, q)
		}
	}
}

// TestP187TakenAwayLater: when a crash comes ahead of taking away, the next one that is published has it done.
func TestP187TakenAwayLater(t *testing.T) {
	l := []point{pointOf(t, 1, 1, 1, 1), pointOf(t, 1, 2, 2, 2), pointOf(t, 1, 3, 3, 3), pointOf(t, 1, 4, 4, 4), pointOf(t, 1, 5, 5, 5)}
	ahead := newStore(t, 20000, allOf(t, l[:3]...).and(l[3].begun(t, len(l[3].pieces))))
	walk := momentsOf(t, ahead, 1, act{kind: publishOne, key: l[3].key()})
	if len(walk) != 7 {
		t.Fatalf("there are %d moments", len(walk))
	}
	for i := range walk {
		s, c, _ := wantMoment(t, "Publish", 1, walk, i, 0, 0)
		gone := (i + 1) / 2
		wantCatalog(t, fmt.Sprint("moment ", i), c, l[gone:4]...)
		wantFiles(t, fmt.Sprint("moment ", i), s, allOf(t, l[gone:4]...))
		publish(t, c, l[4])
		wantCatalog(t, "the next one", c, l[4])
		wantFiles(t, "the next one", s, l[4].published(t))
	}
}
