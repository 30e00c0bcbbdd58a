package guard_test

import (
	"math/rand"
	"testing"

	"pontoon/api"
	"pontoon/guard"
	"pontoon/lease"
)

// stamp is a time by both clocks: the arbiter's and a region's own.
type stamp struct {
	arbiter int64
	own     int64
}

// letter is a message to the arbiter, or (LsAnswer) from it.
type letter struct {
	kind   int
	region int
	serial int64
	epoch  int64
	flag   bool // of LsAlone: whether it does; of LsAnswer: whether it was granted
}

// side is a region: its guard, when it asked its last question and the last one that was granted, and whether the arbiter's clock has run ahead too far since the former.
type side struct {
	guard api.Guard
	asked stamp
	basis stamp
	late  bool
}

// world is two regions that ask an arbiter. What was sent stays under way till much more was sent: it comes in any order, late, twice or never.
type world struct {
	drift int64 // so many ticks the arbiter's clock may make more than a region's
	rude  bool  // a region does not yield ahead of what it sends
	lease api.Lease
	sides [api.Regions]side
	mail  [10]letter
	sent  int
}

// Kinds of moves, beside those of acts.
const (
	clock   = kinds + iota // the arbiter's clock goes on by n
	comes                  // the letter n comes
	release                // the region lets go of the lease, and tells the arbiter
	transfer
	alone // it tells the arbiter whether it acts alone
)

// move is what happens: to whom, and how much.
type move struct {
	kind int
	who  int
	n    int
}

// lag tells how many ticks the arbiter's clock has made more than the region's since s.
func (w *world) lag(who int, s stamp) int64 {
	return w.lease.Clock - s.arbiter - (w.sides[who].guard.Clock - s.own)
}

// send puts a letter under way, if it is not already.
func (w *world) send(x letter) {
	for _, y := range w.mail {
		if x == y {
			return
		}
	}
	w.mail[w.sent%len(w.mail)] = x
	w.sent++
}

// do is the world behind a move, and whether that may happen.
func (w world) do(m move) (world, bool) {
	before := w
	may := true
	s := &w.sides[m.who]
	switch m.kind {
	case clock:
		may = w.hurry(int64(m.n))
	case comes:
		may = w.come(w.mail[m.n])
	case ask:
		w.question(m.who)
	case tick:
		s.guard = guard.Tick(s.guard, int64(m.n))
	case above:
		s.guard = guard.Above(s.guard, int64(m.n))
	case alone:
		w.send(letter{kind: api.LsAlone, region: m.who, epoch: s.guard.Epoch, flag: m.n == 1})
	default:
		w.leave(m)
	}
	return w, may && w != before
}

// hurry has the arbiter's clock go on, and tells whether it may: a region that believes must not fall back too far.
func (w *world) hurry(n int64) bool {
	w.lease = lease.Tick(w.lease, n)
	for who := range w.sides {
		s := &w.sides[who]
		if guard.Believes(s.guard) && w.lag(who, s.basis) > w.drift {
			return false
		}
		s.late = s.late || w.lag(who, s.asked) > w.drift
	}
	return true
}

// question asks the arbiter.
func (w *world) question(who int) {
	s := &w.sides[who]
	g, serial, kind, e := guard.Ask(s.guard)
	if e != api.OK {
		return
	}
	s.guard, s.asked, s.late = g, stamp{w.lease.Clock, g.Clock}, false
	x := letter{kind: api.LsAcquire, region: who, serial: serial}
	if kind == api.GdRenew {
		x.kind, x.epoch = api.LsRenew, g.Epoch
	}
	w.send(x)
}

// leave lets go of the lease ahead of telling the arbiter, but if the world is rude.
func (w *world) leave(m move) {
	s := &w.sides[m.who]
	x := letter{kind: api.LsRelease, region: m.who, epoch: s.guard.Epoch}
	if m.kind == transfer {
		x.kind = api.LsTransfer
	}
	if !w.rude || m.kind == yield {
		s.guard = guard.Yield(s.guard)
	}
	if m.kind != yield && x.epoch != 0 {
		w.send(x)
	}
}

// come hands a letter over, and tells whether it may: what was granted does not come to a region whose clock fell back too far since it asked.
func (w *world) come(x letter) bool {
	s := &w.sides[x.region]
	y := letter{kind: api.LsAnswer, region: x.region, serial: x.serial, epoch: x.epoch}
	var e api.Errno
	switch {
	case x.kind == api.LsAnswer && x.flag:
		g, is := guard.Granted(s.guard, x.serial, x.epoch)
		if is && s.late {
			return false
		}
		if s.guard = g; is {
			s.basis = s.asked
		}
	case x.kind == api.LsAnswer:
		s.guard, _ = guard.Refused(s.guard, x.serial)
	case x.kind == api.LsRelease:
		w.lease, _ = lease.Release(w.lease, x.region, x.epoch)
	case x.kind == api.LsTransfer:
		w.lease, _, _ = lease.Transfer(w.lease, x.region, x.epoch, 1-x.region)
	case x.kind == api.LsAlone:
		w.lease, _ = lease.Alone(w.lease, x.region, x.epoch, x.flag)
	case x.kind == api.LsRenew:
		w.lease, e = lease.Renew(w.lease, x.region, x.epoch)
		y.flag = e == api.OK
		w.send(y)
	case x.kind == api.LsAcquire:
		w.lease, y.epoch, e = lease.Acquire(w.lease, x.region)
		y.flag = e == api.OK
		w.send(y)
	}
	return true
}

func newWorld(drift int64, rude bool) world {
	return world{drift: drift, rude: rude, lease: lease.New()}
}

func (w *world) both() bool {
	return guard.Believes(w.sides[0].guard) && guard.Believes(w.sides[1].guard)
}

// right tells that not both believe, and that the arbiter has given the lease to nobody but who believes.
func (w *world) right(t *testing.T) {
	t.Helper()
	if w.both() {
		t.Fatalf("both believe: %+v", *w)
	}
	for who, s := range w.sides {
		if guard.Believes(s.guard) && (!lease.Held(w.lease) || w.lease.Owner != who) {
			t.Fatalf("%d believes, and does not have it: %+v", who, *w)
		}
	}
}

// someMove is a move that may bring much about.
func (w *world) someMove(r *rand.Rand) move {
	who := r.Intn(api.Regions)
	switch r.Intn(16) {
	case 0, 1:
		return move{clock, 0, 1 + r.Intn(16)}
	case 2, 3, 4:
		return move{tick, who, 1}
	case 5:
		return move{tick, who, 1 + r.Intn(12)}
	case 6, 7:
		if guard.Due(w.sides[who].guard) {
			return move{ask, who, 0}
		}
	case 8:
		return move{ask, who, 0}
	case 9:
		return w.someEnd(r, who)
	}
	// Of what was sent lately, and of all that is under way.
	if r.Intn(3) > 0 {
		return move{comes, 0, (w.sent + len(w.mail) - 1 - r.Intn(2)) % len(w.mail)}
	}
	return move{comes, 0, r.Intn(len(w.mail))}
}

// someEnd is a move with which a region may lose the lease.
func (w *world) someEnd(r *rand.Rand, who int) move {
	switch r.Intn(8) {
	case 0:
		return move{yield, who, 0}
	case 1, 2:
		return move{release, who, 0}
	case 3, 4, 5:
		return move{transfer, who, 0}
	case 6:
		return move{above, who, int(w.lease.Epoch)}
	}
	// It seldom stays alone: the other one would be granted nothing any more.
	return move{alone, who, r.Intn(5) / 4}
}

// walk goes on from w, so many moves or till see says no. The arbiter's clock goes on as far as it may, if that is not as far as it would.
func walk(r *rand.Rand, w world, moves int, see func(w *world) bool) {
	for range moves {
		m := w.someMove(r)
		next, may := w.do(m)
		for ; !may && m.kind == clock && m.n > 1; next, may = w.do(m) {
			m.n--
		}
		if may {
			w = next
		}
		if !see(&w) {
			return
		}
	}
}

func TestP145LongWays(t *testing.T) {
	r := rand.New(rand.NewSource(145))
	var believed [api.Regions]int
	for range 1000 {
		last := 0
		walk(r, newWorld(4, false), 1000, func(w *world) bool {
			w.right(t)
			for who, s := range w.sides {
				if guard.Believes(s.guard) && who != last {
					believed[who]++
					last = who
				}
			}
			return true
		})
	}
	if min(believed[0], believed[1]) < 1000 {
		t.Errorf("it went over to 0 and to 1 just %v times", believed)
	}
}

// TestP145WhatItHangsOn: the ways are long enough to find both believing, where one tick more of drift is allowed, or a region does not yield ahead of what it sends.
func TestP145WhatItHangsOn(t *testing.T) {
	for _, w := range []world{newWorld(5, false), newWorld(4, true)} {
		r := rand.New(rand.NewSource(146))
		found := 0
		for range 1000 {
			walk(r, w, 1000, func(w *world) bool {
				if w.both() {
					found++
				}
				return !w.both()
			})
		}
		if found < 5 {
			t.Errorf("drift %d, rude %v: in %d walks of 1000 both believe", w.drift, w.rude, found)
		}
	}
}

// edges are the moves of a region and of the arbiter at which belief and lease begin and end.
func edges(w *world) []move {
	out := []move{{clock, 0, 1}, {clock, 0, 15}, {clock, 0, 16}}
	for who := range api.Regions {
		out = append(out, move{tick, who, 1}, move{tick, who, 11}, move{ask, who, 0}, move{release, who, 0}, move{transfer, who, 0})
	}
	for n := range min(w.sent, len(w.mail)) {
		out = append(out, move{comes, 0, n})
	}
	return out
}

// reach goes through all worlds that so many moves behind w lead to, each once for its greatest number of moves that are left.
func reach(seen map[world]int, w world, left int, see func(w *world)) {
	if left == 0 || seen[w] >= left {
		return
	}
	seen[w] = left
	for _, m := range edges(&w) {
		if next, may := w.do(m); may {
			see(&next)
			reach(seen, next, left-1, see)
		}
	}
}

func TestP145AllShortWays(t *testing.T) {
	first, _ := newWorld(4, false).do(move{ask, 0, 0})
	reach(map[world]int{}, first, 7, func(w *world) { w.right(t) })
	// With one tick more of drift they are long enough to find both believing.
	first, _ = newWorld(5, false).do(move{ask, 0, 0})
	found := false
	reach(map[world]int{}, first, 7, func(w *world) { found = found || w.both() })
	if !found {
		t.Error("drift 5: nowhere both believe")
	}
}

// happen does moves that all may happen, and tells whether both believed behind one of them.
func happen(t *testing.T, w *world, l ...move) bool {
	t.Helper()
	both := false
	for _, m := range l {
		next, may := w.do(m)
		if !may {
			t.Fatalf("%+v may not happen in %+v", m, *w)
		}
		*w = next
		both = both || w.both()
	}
	return both
}

// TestP145LastTick: granted as soon as it was asked, the arbiter's clock runs ahead as far as it may, and the other one asks at each of its ticks.
func TestP145LastTick(t *testing.T) {
	for ahead := int64(0); ahead <= 5; ahead++ {
		w := newWorld(ahead, false)
		// What was asked, and what is answered, are the letters 0 and 1.
		happen(t, &w, move{ask, 0, 0}, move{comes, 0, 0}, move{comes, 0, 1})
		if _, may := w.do(move{clock, 0, int(ahead) + 1}); may {
			t.Fatalf("the arbiter's clock runs ahead too far: %+v", w)
		}
		w.hurry(ahead)
		both := false
		for n := range 12 {
			if n > 0 {
				both = happen(t, &w, move{tick, 0, 1}, move{clock, 0, 1}) || both
			}
			x := w
			x.mail, x.sent = [10]letter{}, 0
			both = happen(t, &x, move{ask, 1, 0}, move{comes, 0, 0}, move{comes, 0, 1}) || both
			if ahead <= 4 && (!lease.Held(x.lease) || x.lease.Owner != 0) {
				t.Fatalf("at the tick %d, %d ahead: %+v", n, ahead, x)
			}
		}
		if both != (ahead > 4) {
			t.Errorf("%d ticks ahead: both believe: %v", ahead, both)
		}
		wantTold(t, w.sides[0].guard, true, 1, true)
		wantTold(t, guard.Tick(w.sides[0].guard, 1), false, 0, true)
	}
}

// TestP145LateLetters: what was asked, told and answered long ago comes again, once or often, when the other one has the lease.
func TestP145LateLetters(t *testing.T) {
	w := newWorld(4, false)
	happen(t, &w, move{ask, 0, 0}, move{comes, 0, 0}, move{comes, 0, 1}, move{tick, 0, 6}, move{clock, 0, 6})
	happen(t, &w, move{ask, 0, 0}, move{comes, 0, 2}, move{comes, 0, 3}, move{transfer, 0, 0})
	if !lease.Held(w.lease) || w.sides[0].guard.Epoch != 0 {
		t.Fatalf("%+v", w)
	}
	happen(t, &w, move{comes, 0, 4}, move{ask, 1, 0}, move{comes, 0, 5}, move{comes, 0, 6})
	if w.lease.Owner != 1 || w.lease.Epoch != 3 || !guard.Believes(w.sides[1].guard) {
		t.Fatalf("%+v", w)
	}
	for range 3 {
		for n := range w.mail {
			if next, may := w.do(move{comes, 0, n}); may {
				w = next
			}
			w.right(t)
			if next, may := w.do(move{ask, 0, 0}); may {
				w = next
			}
			w.right(t)
			if w.lease.Owner != 1 {
				t.Fatalf("%+v", w)
			}
		}
	}
}
