package guard_test

import (
	"math/rand"
	"testing"

	"pontoon/api"
	"pontoon/guard"
)

// watcher holds a guard that began as New against P14.4 and P14.6; it knows what was called and answered alone.
type watcher struct {
	clock   int64
	kind    int   // of the last question
	asked   int64 // when that was asked
	granted int64 // when the last one that was granted was asked
	epoch   int64 // the greatest that was granted
	rises   bool  // whether each that was granted was above those ahead of it, but for more time
	has     bool  // whether one was granted, and neither let go of nor lost since
}

func watch() watcher {
	return watcher{rises: true}
}

// see is the watcher behind an act that was answered so.
func (w watcher) see(t *testing.T, a act, x answer) watcher {
	t.Helper()
	switch {
	case a.kind == tick:
		w.clock = modelTick(api.Guard{Clock: w.clock}, a.n).Clock
	case a.kind == ask && x.err == api.OK:
		w.kind, w.asked = x.kind, w.clock
	case a.kind == granted && x.is:
		// More time is no new grant: its epoch is that which the guard has.
		w.rises = w.rises && (a.epoch > w.epoch || w.kind == api.GdRenew)
		w.epoch, w.granted, w.has = max(w.epoch, a.epoch), w.asked, true
	case a.kind == refused && x.is && w.kind == api.GdRenew,
		a.kind == yield,
		a.kind == above && w.rises && a.epoch > w.epoch:
		w.has = false
	}
	w.holds(t, x.guard)
	return w
}

// holds tells that g is a guard that may be behind what the watcher has seen.
func (w watcher) holds(t *testing.T, g api.Guard) {
	t.Helper()
	wantCheck(t, g, api.OK)
	if g.Clock != w.clock {
		t.Fatalf("%+v; its clock must be %d", g, w.clock)
	}
	if !guard.Believes(g) {
		return
	}
	if !w.has {
		t.Fatalf("P14.6: %+v believes, and has nothing that was granted", g)
	}
	if w.clock-w.granted >= 12 {
		t.Fatalf("P14.6: %+v believes; the last question that was granted was asked at %d", g, w.granted)
	}
	if w.rises && g.Epoch != w.epoch {
		t.Fatalf("P14.4: %+v believes; the greatest epoch that was granted is %d", g, w.epoch)
	}
}

// step does an act, and has the watcher look at it.
func step(t *testing.T, w watcher, g api.Guard, a act) (watcher, api.Guard) {
	t.Helper()
	x := do(g, a)
	return w.see(t, a, x), x.guard
}

// moves are acts with the numbers of g and those around them.
func moves(g api.Guard, w watcher) []act {
	out := []act{{kind: ask}, {kind: yield}, {kind: above, epoch: g.Epoch}, {kind: above, epoch: g.Epoch + 1}}
	for _, n := range []int64{1, 3, 4, 12} {
		out = append(out, act{kind: tick, n: n})
	}
	for _, serial := range []int64{g.Serial - 1, g.Serial} {
		out = append(out, act{kind: refused, serial: serial})
		for _, epoch := range []int64{w.epoch, w.epoch + 1} {
			out = append(out, act{kind: granted, serial: serial, epoch: epoch})
		}
	}
	return out
}

// follow does all moves, so many one behind the other.
func follow(t *testing.T, w watcher, g api.Guard, left int) {
	if left == 0 {
		return
	}
	for _, a := range moves(g, w) {
		next, x := step(t, w, g, a)
		if x != g {
			follow(t, next, x, left-1)
		}
	}
}

func TestP144P146AllShortWays(t *testing.T) {
	follow(t, watch(), guard.New(), 7)
}

func TestP144P146LongWays(t *testing.T) {
	r := rand.New(rand.NewSource(144))
	believed := 0
	for round := range 2000 {
		w, g := watch(), guard.New()
		if round%4 == 3 {
			w, g = step(t, w, g, act{kind: tick, n: end - r.Int63n(200)})
		}
		for range 300 {
			a := someAct(r, g)
			if a.kind == granted && g.Kind == api.GdAcquire && round%2 == 0 {
				a.epoch = w.epoch + 1 + r.Int63n(3)
			}
			w, g = step(t, w, g, a)
			if guard.Believes(g) {
				believed++
			}
		}
	}
	if believed < 10000 {
		t.Errorf("they believed just %d times", believed)
	}
}

// TestP144EachCall: of guards that may be, and of such that may not, each call makes one that may.
func TestP144EachCall(t *testing.T) {
	for _, g := range append(fine(), spoilt()...) {
		for _, a := range acts(g) {
			if next := do(g, a).guard; guard.Check(next) != api.OK {
				t.Fatalf("of %+v: %+v makes %+v, which may not be", g, a, next)
			}
		}
	}
}

// TestP144EpochsRise: over many grants, up to the last epoch that there is, with some for more time between them.
func TestP144EpochsRise(t *testing.T) {
	for _, first := range []int64{1, 7, api.MaxNum - 9} {
		g := guard.New()
		for epoch := first; epoch < first+10; epoch++ {
			g, _, _, _ = guard.Ask(g)
			g, _ = guard.Granted(guard.Tick(g, 2), g.Serial, epoch)
			for range 3 {
				g, _, _, _ = guard.Ask(guard.Tick(g, 9))
				if x, is := guard.Granted(g, g.Serial, epoch-1); is || x != g {
					t.Fatalf("of %+v: granted under %d, %+v", g, epoch-1, x)
				}
				g, _ = guard.Granted(g, g.Serial, epoch)
				if g.Epoch != epoch || !guard.Believes(g) {
					t.Fatalf("%+v; it must believe in %d", g, epoch)
				}
			}
			g = guard.Above(g, epoch)
			if !guard.Believes(g) {
				t.Fatalf("%+v does not believe any more", g)
			}
			g = guard.Above(g, epoch+1)
		}
	}
}

// TestP146ItDoesNotLast: whenever the answer comes, and however often it asks again behind it, it is over twelve ticks behind the question that was granted.
func TestP146ItDoesNotLast(t *testing.T) {
	for came := range int64(16) {
		for renewed := range int64(16) {
			w, g := watch(), guard.New()
			w, g = step(t, w, g, act{kind: tick, n: 5})
			w, g = step(t, w, g, act{kind: ask})
			w, g = step(t, w, g, act{kind: tick, n: came})
			w, g = step(t, w, g, act{kind: granted, serial: g.Serial, epoch: 7})
			wantTold(t, g, came < 12, max(12-came, 0), came >= 6)
			w, g = step(t, w, g, act{kind: tick, n: renewed})
			asked := g.Clock
			w, g = step(t, w, g, act{kind: ask})
			w, g = step(t, w, g, act{kind: granted, serial: g.Serial, epoch: 7})
			for range 40 {
				if got, want := guard.Believes(g), g.Clock < asked+12; got != want {
					t.Fatalf("%+v believes: %v; it was asked at %d", g, got, asked)
				}
				w, g = step(t, w, g, act{kind: ask})
				w, g = step(t, w, g, act{kind: tick, n: 1})
			}
		}
	}
}

// TestP146AnyGuard: of any guard that may be it is over behind twelve ticks.
func TestP146AnyGuard(t *testing.T) {
	for _, g := range append(sound(), fine()...) {
		if left := guard.Left(g); left < 0 || left > 12 {
			t.Fatalf("Left(%+v) = %d", g, left)
		}
		if x := guard.Tick(g, 12); guard.Believes(x) {
			t.Fatalf("of %+v: %+v believes", g, x)
		}
	}
}
