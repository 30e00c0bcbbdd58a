package lease_test

import (
	"math/rand"
	"testing"

	"pontoon/api"
	"pontoon/lease"
)

// right is an epoch, and the one region that it is granted to.
type right struct {
	epoch  int64
	region int
}

// watcher holds what an arbiter answers against P13.5 to P13.7; behind the lease that it begins with, it knows what was asked and answered alone.
type watcher struct {
	rights []right // one behind the other, as they were granted
	owner  int
	clock  int64
	until  int64
	alone  int // who acknowledges alone
}

// watch begins with a lease that may be.
func watch(l api.Lease) watcher {
	w := watcher{owner: l.Owner, clock: l.Clock, until: l.Until, alone: -1}
	if l.Last != -1 {
		w.rights = []right{{l.Epoch, l.Last}}
	}
	if l.Solo {
		w.alone = l.Last
	}
	return w
}

func (w watcher) held() bool {
	return w.owner != -1 && w.until > w.clock
}

// see is the watcher behind an act that was answered without an error.
func (w watcher) see(t *testing.T, a act, epoch int64) watcher {
	t.Helper()
	switch a.kind {
	case tick:
		w.clock = modelLater(w.clock, a.n)
	case acquire:
		if w.held() && w.owner != a.region {
			t.Fatalf("P13.6: %+v is granted, and %d holds it", a, w.owner)
		}
		return w.granted(t, a.region, epoch)
	case transfer:
		if w.held() && w.owner != a.region {
			t.Fatalf("P13.6: %+v is granted, and %d holds it", a, w.owner)
		}
		w.hasRight(t, a)
		return w.granted(t, a.to, epoch)
	case renew:
		w.hasRight(t, a)
		w.owner, w.until = a.region, modelLater(w.clock, 16)
	case release:
		w.hasRight(t, a)
		w.owner = -1
	case alone:
		w.hasRight(t, a)
		return w.said(t, a)
	}
	return w
}

// granted notes a new right.
func (w watcher) granted(t *testing.T, region int, epoch int64) watcher {
	t.Helper()
	for _, r := range w.rights {
		if epoch <= r.epoch {
			t.Fatalf("P13.5: the epoch %d is granted behind the epoch %d", epoch, r.epoch)
		}
	}
	if w.alone != -1 && region != w.alone {
		t.Fatalf("P13.7: the epoch %d is granted to %d, and %d acknowledges alone", epoch, region, w.alone)
	}
	size := len(w.rights)
	w.rights = append(w.rights[:size:size], right{epoch, region})
	w.owner, w.until = region, modelLater(w.clock, 16)
	return w
}

// said notes whether an owner acknowledges alone.
func (w watcher) said(t *testing.T, a act) watcher {
	t.Helper()
	if w.alone != -1 && a.region != w.alone {
		t.Fatalf("P13.7: %+v is taken, and %d acknowledges alone", a, w.alone)
	}
	w.alone = -1
	if a.solo {
		w.alone = a.region
	}
	return w
}

// hasRight tells that an act that was taken is one of the region that its epoch was granted to.
func (w watcher) hasRight(t *testing.T, a act) {
	t.Helper()
	for _, r := range w.rights {
		if r == (right{a.epoch, a.region}) {
			return
		}
	}
	t.Fatalf("P13.5: %+v is taken; granted were %+v", a, w.rights)
}

// step does an act, and has the watcher look at it.
func step(t *testing.T, w watcher, l api.Lease, a act) (watcher, api.Lease) {
	t.Helper()
	x := do(l, a)
	switch {
	case x.err == api.OK:
		w = w.see(t, a, x.epoch)
	case x.lease != l:
		t.Fatalf("of %+v: %+v answers the error %d, and %+v", l, a, x.err, x.lease)
	}
	if lease.Check(x.lease) != api.OK {
		t.Fatalf("of %+v: %+v answers %+v, which may not be", l, a, x.lease)
	}
	if lease.Held(x.lease) != w.held() || w.held() && x.lease.Owner != w.owner {
		t.Fatalf("of %+v: %+v answers %+v; the watcher has %+v", l, a, x.lease, w)
	}
	return w, x.lease
}

// moves are acts of both regions, of the epoch of l and of those around it.
func moves(l api.Lease) []act {
	out := []act{{kind: tick, n: 1}, {kind: tick, n: 15}, {kind: tick, n: 16}}
	for region := range api.Regions {
		out = append(out, act{kind: acquire, region: region})
		for _, epoch := range []int64{l.Epoch - 1, l.Epoch} {
			out = append(out,
				act{kind: renew, region: region, epoch: epoch},
				act{kind: release, region: region, epoch: epoch},
				act{kind: transfer, region: region, epoch: epoch, to: 1 - region},
				act{kind: alone, region: region, epoch: epoch, solo: true},
				act{kind: alone, region: region, epoch: epoch},
			)
		}
	}
	return out
}

// follow does all moves, so many one behind the other.
func follow(t *testing.T, w watcher, l api.Lease, left int) {
	if left == 0 {
		return
	}
	for _, a := range moves(l) {
		next, x := step(t, w, l, a)
		if a.kind == tick || x != l {
			follow(t, next, x, left-1)
		}
	}
}

func TestP135P136P137AllShortWays(t *testing.T) {
	follow(t, watch(lease.New()), lease.New(), 6)
	for _, l := range fine() {
		follow(t, watch(l), l, 4)
	}
}

func TestP135P136P137LongWays(t *testing.T) {
	r := rand.New(rand.NewSource(135))
	for round := range 3000 {
		l := lease.New()
		if round%2 == 1 {
			l = someLease(r)
		}
		w := watch(l)
		for range 200 {
			a := someAct(r, l)
			if r.Intn(4) == 0 && len(w.rights) > 0 {
				// Of a right that is long past.
				old := w.rights[r.Intn(len(w.rights))]
				a.region, a.epoch, a.to = old.region, old.epoch, 1-old.region
			}
			w, l = step(t, w, l, a)
		}
	}
}

// TestP135EpochsRise: by whatever way a lease is granted, and up to the last epoch that there is.
func TestP135EpochsRise(t *testing.T) {
	l := but(held(0), func(l *api.Lease) { l.Epoch = api.MaxNum - 6 })
	for n, a := range []act{
		{kind: acquire, region: 0},
		{kind: transfer, region: 0, epoch: api.MaxNum - 5, to: 1},
		{kind: acquire, region: 1},
		{kind: transfer, region: 1, epoch: api.MaxNum - 3, to: 0},
		{kind: acquire, region: 0},
		{kind: acquire, region: 0},
	} {
		x := do(l, a)
		if want := api.MaxNum - 5 + int64(n); x.err != api.OK || x.epoch != want || x.lease.Epoch != want {
			t.Fatalf("of %+v: %+v answers %+v; want the epoch %d", l, a, x, want)
		}
		l = x.lease
	}
	for _, a := range []act{{kind: acquire, region: 0}, {kind: transfer, region: 0, epoch: api.MaxNum, to: 1}} {
		wantFault(t, l, a, api.ErrFull)
	}
	free, e := lease.Release(l, 0, api.MaxNum)
	if e != api.OK {
		t.Fatal(e)
	}
	for region := range api.Regions {
		wantFault(t, free, act{kind: acquire, region: region}, api.ErrFull)
	}
}

// TestP136NotBoth: at each tick for which it is granted, and for which it is renewed.
func TestP136NotBoth(t *testing.T) {
	for region := range api.Regions {
		other := 1 - region
		l, epoch, _ := lease.Acquire(lease.New(), region)
		for n := range int64(10 * api.LeaseTicks) {
			l = lease.Tick(l, 1)
			if n%api.LeaseTicks == api.LeaseTicks-2 {
				l, _ = lease.Renew(l, region, epoch)
			}
			wantFault(t, l, act{kind: acquire, region: other}, api.ErrHeld)
			wantFault(t, l, act{kind: transfer, region: other, epoch: epoch, to: region}, api.ErrLost)
			wantFault(t, l, act{kind: renew, region: other, epoch: epoch}, api.ErrLost)
		}
		given, next, e := lease.Transfer(l, region, epoch, other)
		if given.Owner != other || next != epoch+1 || e != api.OK {
			t.Fatal(given, next, e)
		}
		wantFault(t, given, act{kind: acquire, region: region}, api.ErrHeld)
		l = lease.Tick(l, api.LeaseTicks)
		if l, next, e = lease.Acquire(l, other); l.Owner != other || next != epoch+1 || e != api.OK {
			t.Fatal(l, next, e)
		}
	}
}

// TestP137NobodyTakesWhatHeLacks: through its time being over, its being given back and taken anew, till its last owner says otherwise.
func TestP137NobodyTakesWhatHeLacks(t *testing.T) {
	for region := range api.Regions {
		other := 1 - region
		l, epoch, _ := lease.Acquire(lease.New(), region)
		l, _ = lease.Alone(l, region, epoch, true)
		refused := func(want api.Errno) {
			t.Helper()
			wantFault(t, l, act{kind: acquire, region: other}, want)
			for old := range epoch + 2 {
				wantFault(t, l, act{kind: alone, region: other, epoch: old}, api.ErrLost)
			}
			if l.Owner == region {
				wantFault(t, l, act{kind: transfer, region: region, epoch: epoch, to: other}, api.ErrStale)
			}
		}
		refused(api.ErrHeld)
		l = lease.Tick(l, 1000)
		refused(api.ErrStale)
		l, _ = lease.Renew(l, region, epoch)
		refused(api.ErrHeld)
		l, _ = lease.Release(l, region, epoch)
		refused(api.ErrStale)
		// It is not the owner any more: it has to own it to say so.
		wantFault(t, l, act{kind: alone, region: region, epoch: epoch}, api.ErrLost)
		l, epoch, _ = lease.Acquire(l, region)
		if !l.Solo || epoch != 2 {
			t.Fatal(l, epoch)
		}
		refused(api.ErrHeld)
		l = lease.Tick(l, api.LeaseTicks)
		refused(api.ErrStale)
		l, e := lease.Alone(l, region, epoch, false)
		if e != api.OK {
			t.Fatal(e)
		}
		l, epoch, e = lease.Acquire(l, other)
		if l.Owner != other || l.Solo || epoch != 3 || e != api.OK {
			t.Fatal(l, epoch, e)
		}
	}
}
