package catalog_test

import (
	"fmt"
	"reflect"
	"slices"
	"testing"

	"pontoon/api"
	"pontoon/catalog"
	"pontoon/store"
)

// several are three checkpoints that are published, and one that is begun.
func several(t *testing.T) ([]point, point) {
	t.Helper()
	return []point{pointOf(t, 1, 2, 3, 4), pointOf(t, 1, 10, 5, 4), pointOf(t, 2, 1, 5, 6)}, pointOf(t, 2, 2, 7, 8)
}

// severalOpen is a catalog that has several, and its store.
func severalOpen(t *testing.T, n int) (*store.Store, *catalog.Catalog) {
	t.Helper()
	l, p := several(t)
	s := newStore(t, maxRoom, allOf(t, l...).and(p.begun(t, n)))
	return s, open(t, s, 8)
}

func TestP184Next(t *testing.T) {
	l, p := several(t)
	for n := range len(p.pieces) + 1 {
		s, c := severalOpen(t, n)
		// It answers of a store that is down, too.
		for range 2 {
			for _, x := range l {
				wantNext(t, "published", c, x.key(), -1)
			}
			wantNext(t, "begun", c, p.key(), n)
			for _, k := range []api.TxnKey{{}, key(2, 0), key(0, 2), key(2, 3), key(1, 1), key(10, 1), key(3, 2), key(-2, -2), key(most, most), key(least, least)} {
				if got, e := c.Next(k); got != 0 || e != api.ErrNone {
					t.Errorf("Next(%v) answers %d, %d", k, got, e)
				}
			}
			s.Crash(0, 0)
		}
	}
	for _, k := range []api.TxnKey{{}, p.key()} {
		if n, e := (*catalog.Catalog)(nil).Next(k); n != 0 || e != api.ErrMade {
			t.Errorf("Next of none answers %d, %d", n, e)
		}
		if n, e := new(catalog.Catalog).Next(k); n != 0 || e != api.ErrMade {
			t.Errorf("Next of zero answers %d, %d", n, e)
		}
	}
}

// keysOf are the keys that All tells up to that many, and whether each manifest is the key's.
func keysOf(t *testing.T, c *catalog.Catalog, many int) []api.TxnKey {
	t.Helper()
	var l []api.TxnKey
	if many == 0 {
		return nil
	}
	for k, m := range c.All() {
		if m.Epoch != k.Epoch || m.Id != k.Id {
			t.Errorf("All tells %v beside %v", m, k)
		}
		if l = append(l, k); len(l) == many {
			break
		}
	}
	return l
}

func TestP184All(t *testing.T) {
	l, p := several(t)
	s, c := severalOpen(t, len(p.pieces))
	for range 2 {
		for many := range 5 {
			var want []api.TxnKey
			for _, x := range l[:min(many, len(l))] {
				want = append(want, x.key())
			}
			if got := keysOf(t, c, many); !slices.Equal(got, want) {
				t.Errorf("All tells %v; want %v", got, want)
			}
		}
		// Of a store that is down, too.
		s.Crash(0, 0)
	}
	want(t, "Start", s.Start(), api.OK)
	wantCatalog(t, "All", c, l...)
	for range open(t, newStore(t, 100, nil), 1).All() {
		t.Error("All of nothing tells something")
	}
}

// wantTold tells what an iterator goes through, as often as it is asked, whole or left early.
func wantTold(t *testing.T, what string, all func(func(api.TxnKey, api.Manifest) bool), l []point) {
	t.Helper()
	for many := len(l); many >= 0; many-- {
		n := 0
		for k, m := range all {
			if n >= len(l) || k != l[n].key() || !sameManifest(m, l[n].m) {
				t.Fatalf("%s: %v, %v is told at the place %d", what, k, m, n)
			}
			if n++; n == many {
				break
			}
		}
		if n != max(many, min(len(l), 1)) && many > 0 {
			t.Fatalf("%s: %d are told; want %d", what, n, many)
		}
	}
	n := 0
	for range all {
		n++
	}
	if n != len(l) {
		t.Fatalf("%s: %d are told; want %d", what, n, len(l))
	}
}

// TestR3AllBehindTheCall: it tells what was there when it was asked for, whatever is published or taken away later, also in its midst.
func TestR3AllBehindTheCall(t *testing.T) {
	l, p := several(t)
	s, c := severalOpen(t, len(p.pieces))
	ahead := c.All()
	want(t, "Publish", c.Publish(p.key()), api.OK)
	behind := c.All()
	all := append(slices.Clone(l), p)
	wantTold(t, "ahead of Publish", ahead, l)
	wantTold(t, "behind Publish", behind, all)
	if n, e := c.Above([]int64{5, 5}); n != 2 || e != api.OK {
		t.Fatalf("Above answers %d, %d", n, e)
	}
	wantTold(t, "ahead of Above", behind, all)
	wantTold(t, "far ahead of Above", ahead, l)
	wantTold(t, "behind Above", c.All(), l[:2])
	x := pointOf(t, 1, 5, 4, 4)
	publish(t, c, x)
	wantTold(t, "ahead of all that", behind, all)
	wantTold(t, "in between", c.All(), []point{l[0], x, l[1]})
	n := 0
	for k := range c.All() {
		n++
		if e := c.Begin(pointOf(t, 7, int64(n), 9, 9).m); e != api.OK {
			t.Fatalf("Begin answers %d", e)
		}
		c.Above([]int64{int64(3 - n), 0})
		if k != []api.TxnKey{l[0].key(), x.key(), l[1].key()}[n-1] {
			t.Errorf("%v is told at the place %d", k, n)
		}
	}
	if n != 3 {
		t.Errorf("%d are told", n)
	}
	want(t, "Crash", s.Crash(0, 0), api.OK)
	wantTold(t, "of one that is down", behind, all)
	wantTold(t, "nothing is left", c.All(), nil)
}

// TestR3AllAndLesserOnes: those that are published ahead of others do not move what was asked for.
func TestR3AllAndLesserOnes(t *testing.T) {
	for many := 1; many <= 8; many++ {
		s := newStore(t, maxRoom, nil)
		c := open(t, s, 8)
		var l []point
		for id := int64(20); id > 20-int64(many); id-- {
			l = append([]point{pointOf(t, 1, id, 3, 4)}, l...)
			publish(t, c, l[0])
		}
		c.Above([]int64{3, 4})
		for id := int64(9); id > 0; id-- {
			all := c.All()
			p := pointOf(t, 1, id, 3, 4)
			publish(t, c, p)
			wantTold(t, "ahead of a lesser one", all, l)
			l = append([]point{p}, l...)
			l = l[max(len(l)-8, 0):]
			wantTold(t, "behind a lesser one", c.All(), l)
		}
	}
}

func TestP184Latest(t *testing.T) {
	s := newStore(t, maxRoom, nil)
	c := open(t, s, 2)
	wantLatest := func(what string, l ...point) {
		t.Helper()
		m, is := c.Latest()
		if is != (len(l) > 0) || is && !sameManifest(m, l[0].m) || !is && !reflect.DeepEqual(m, api.Manifest{}) {
			t.Fatalf("%s: Latest answers %v, %v", what, m, is)
		}
	}
	wantLatest("nothing")
	p, q, r := pointOf(t, 1, 9, 3, 4), pointOf(t, 2, 1, 5, 6), pointOf(t, 1, 10, 4, 4)
	put(t, c, p, len(p.pieces))
	wantLatest("begun")
	want(t, "Publish", c.Publish(p.key()), api.OK)
	wantLatest("published", p)
	publish(t, c, q)
	wantLatest("a greater one", q)
	publish(t, c, r)
	wantLatest("a lesser one", q)
	want(t, "Crash", s.Crash(0, 0), api.OK)
	wantLatest("down", q)
	want(t, "Start", s.Start(), api.OK)
	c.Above([]int64{4, 5})
	wantLatest("behind Above", r)
	c.Above([]int64{3, 9})
	wantLatest("nothing again")
}

func TestP184Get(t *testing.T) {
	l, p := several(t)
	s, c := severalOpen(t, len(p.pieces))
	for _, x := range l {
		wantWhole(t, "published", c, x)
	}
	others := []api.TxnKey{p.key(), {}, key(2, 0), key(0, 2), key(2, 3), key(1, 1), key(10, 1), key(-1, -2), key(most, least)}
	for _, k := range others {
		wantUnread(t, "another one", c, k, api.ErrNone)
	}
	want(t, "Crash", s.Crash(0, 0), api.OK)
	for _, k := range append(others, l[0].key()) {
		wantUnread(t, "down", c, k, api.ErrDown)
		wantUnread(t, "none", nil, k, api.ErrMade)
		wantUnread(t, "zero", &catalog.Catalog{}, k, api.ErrMade)
	}
	want(t, "Start", s.Start(), api.OK)
	wantCatalog(t, "up again", c, l...)
}

// TestP184GetDamaged: what somebody else did to the pieces is never told as if it were whole.
func TestP184GetDamaged(t *testing.T) {
	p := pointOf(t, 2, 3, 5, 6)
	for what, b := range notPieces(t, p) {
		s := newStore(t, maxRoom, p.published(t))
		c := open(t, s, 1)
		want(t, "Cut", s.Cut("ck.2.3.d", 0), api.OK)
		want(t, "Write", s.Write("ck.2.3.d", 0, b), api.OK)
		had := tell(t, s)
		_, _, e := c.Get(p.key())
		if e != api.ErrSnap && e != api.ErrCatalog {
			t.Fatalf("%s: Get answers %d", what, e)
		}
		wantUnread(t, what, c, p.key(), e)
		wantDisk(t, what, s, had)
	}
	s := newStore(t, maxRoom, p.published(t))
	c := open(t, s, 1)
	want(t, "Remove", s.Remove("ck.2.3.d"), api.OK)
	wantUnread(t, "without NAME.d", c, p.key(), api.ErrNone)
}

// TestP184Sizes: pieces of all lengths, and a state as long as may be.
func TestP184Sizes(t *testing.T) {
	s := newStore(t, maxRoom, nil)
	c := open(t, s, 8)
	var l []point
	for i, n := range []int{1, 2, 3, 7, 30, 31, 64, 4096} {
		p := pointIn(t, two(), n, 1, int64(i+1), 3, 4)
		publish(t, c, p)
		l = append(l, p)
	}
	wantCatalog(t, "all sizes", c, l...)
	wantCatalog(t, "opened again", open(t, s, 8), l...)
}

// TestP184Above: the number of those that were published; also the one that is begun goes, uncounted.
func TestP184Above(t *testing.T) {
	l, p := several(t)
	for _, x := range []struct {
		vector []int64
		stay   []int // of l
		begun  bool
	}{
		{[]int64{7, 8}, []int{0, 1, 2}, true},
		{[]int64{end, end}, []int{0, 1, 2}, true},
		{[]int64{most, most}, []int{0, 1, 2}, true},
		{[]int64{6, 8}, []int{0, 1, 2}, false},
		{[]int64{7, 7}, []int{0, 1, 2}, false},
		{[]int64{5, 6}, []int{0, 1, 2}, false},
		{[]int64{5, 5}, []int{0, 1}, false},
		{[]int64{most, 5}, []int{0, 1}, false},
		{[]int64{5, 4}, []int{0, 1}, false},
		{[]int64{4, 8}, []int{0}, false},
		{[]int64{3, 4}, []int{0}, false},
		{[]int64{3, most}, []int{0}, false},
		{[]int64{3, 3}, nil, false},
		{[]int64{2, 4}, nil, false},
		{[]int64{most, 3}, nil, false},
		{[]int64{2, most}, nil, false},
		{[]int64{0, 0}, nil, false},
		{[]int64{-1, -1}, nil, false},
		{[]int64{least, most}, nil, false},
		{nil, nil, false},
		{[]int64{}, nil, false},
		{[]int64{9}, nil, false},
		{[]int64{9, 9, 9}, nil, false},
		{make([]int64, 5000), nil, false},
	} {
		s, c := severalOpen(t, 2)
		want(t, "Create", s.Create("else"), api.OK)
		for turn := range 2 {
			what := fmt.Sprint("Above ", x.vector[:min(len(x.vector), 3)])
			n, e := c.Above(x.vector)
			if gone := (len(l) - len(x.stay)) * (1 - turn); n != gone || e != api.OK {
				t.Fatalf("%s answers %d, %d; want %d", what, n, e, gone)
			}
			var stay []point
			for _, i := range x.stay {
				stay = append(stay, l[i])
			}
			wantCatalog(t, what, c, stay...)
			then := allOf(t, stay...).and(files{"else": nil})
			if x.begun {
				wantBegun(t, what, c, p, 2)
				then = then.and(p.begun(t, 2))
			} else {
				wantNone(t, what, c, p.key())
			}
			wantFiles(t, what, s, then)
			wantCatalog(t, "opened again", open(t, s, 8), stay...)
		}
	}
}

// TestP184AboveMixed: each one goes by its own vector, whatever its place; its key can be begun again.
func TestP184AboveMixed(t *testing.T) {
	l := []point{pointOf(t, 1, 1, 9, 1), pointOf(t, 1, 2, 5, 5), pointOf(t, 1, 3, 1, 9), pointOf(t, 1, 4, 5, 6), pointOf(t, 1, 5, 0, 0)}
	s := newStore(t, maxRoom, allOf(t, l...))
	c := open(t, s, 8)
	n, e := c.Above([]int64{5, 5})
	if want(t, "Above", e, api.OK); n != 3 {
		t.Errorf("Above takes %d away", n)
	}
	wantCatalog(t, "Above", c, l[1], l[4])
	wantFiles(t, "Above", s, allOf(t, l[1], l[4]))
	for _, x := range []point{l[3], l[0], l[2]} {
		wantNone(t, "taken away", c, x.key())
		publish(t, c, x)
	}
	wantCatalog(t, "published again", c, l...)
	// What is begun goes alone, if its vector is the only one.
	put(t, c, pointOf(t, 3, 3, 20, 20), 3)
	n, e = c.Above([]int64{10, 10})
	if want(t, "Above", e, api.OK); n != 0 {
		t.Errorf("Above takes %d away", n)
	}
	wantFiles(t, "Above", s, allOf(t, l...))
	want(t, "Put", c.Put(key(3, 3), 3, nil), api.ErrNone)
	want(t, "Publish", c.Publish(key(3, 3)), api.ErrNone)
}

// TestP184AboveOfOtherLengths: one that is begun may have a vector that none of the graph's is.
func TestP184AboveOfOtherLengths(t *testing.T) {
	p := pointOf(t, 1, 1, 3, 4)
	for length := 1; length <= 4; length++ {
		q := pointOf(t, 2, 2, 5, 6).change(func(m *api.Manifest) { m.Vector = make([]int64, length) })
		for size := range 6 {
			s := newStore(t, maxRoom, p.published(t).and(q.begun(t, 2)))
			c := open(t, s, 1)
			n, e := c.Above([]int64{9, 9, 9, 9, 9}[:size])
			want(t, "Above", e, api.OK)
			if n != map[bool]int{true: 0, false: 1}[size == 2] {
				t.Errorf("Above of %d numbers takes %d away", size, n)
			}
			if size == length {
				wantBegun(t, "Above", c, q, 2)
			} else {
				wantNone(t, "Above", c, q.key())
			}
		}
	}
}

func TestP184AboveNowhere(t *testing.T) {
	l, p := several(t)
	s, c := severalOpen(t, 2)
	want(t, "Crash", s.Crash(0, 0), api.OK)
	for _, vector := range [][]int64{nil, {0, 0}, {most, most}} {
		for what, x := range map[api.Errno]*catalog.Catalog{api.ErrDown: c, api.ErrMade: nil} {
			had := tell(t, s)
			if n, e := x.Above(vector); n != 0 || e != what {
				t.Fatalf("Above answers %d, %d; want %d", n, e, what)
			}
			wantDisk(t, "Above", s, had)
		}
		if n, e := new(catalog.Catalog).Above(vector); n != 0 || e != api.ErrMade {
			t.Fatalf("Above of zero answers %d, %d", n, e)
		}
	}
	want(t, "Start", s.Start(), api.OK)
	wantCatalog(t, "up again", c, l...)
	wantBegun(t, "up again", c, p, 2)
	empty := open(t, newStore(t, 100, nil), 3)
	if n, e := empty.Above(nil); n != 0 || e != api.OK {
		t.Errorf("Above of nothing answers %d, %d", n, e)
	}
}
