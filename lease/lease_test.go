package lease_test

import (
	"testing"

	"pontoon/api"
	"pontoon/lease"
)

// held is a lease that region has under epoch 7, from the tick 5 to the tick 21.
func held(region int) api.Lease {
	return api.Lease{Owner: region, Last: region, Epoch: 7, Clock: 5, Until: 21}
}

// but is l with a change.
func but(l api.Lease, change func(l *api.Lease)) api.Lease {
	change(&l)
	return l
}

// solo is l, of which the owner acknowledges alone.
func solo(l api.Lease) api.Lease {
	return but(l, func(l *api.Lease) { l.Solo = true })
}

// over is l at the tick at which its time is over.
func over(l api.Lease) api.Lease {
	return but(l, func(l *api.Lease) { l.Clock = l.Until })
}

// freed is l, which its owner gave back at the tick 5.
func freed(l api.Lease) api.Lease {
	return but(l, func(l *api.Lease) { l.Owner, l.Until = -1, 5 })
}

// last is l under the last epoch that there is.
func last(l api.Lease) api.Lease {
	return but(l, func(l *api.Lease) { l.Epoch = api.MaxNum })
}

// at is l at another tick.
func at(l api.Lease, clock int64) api.Lease {
	return but(l, func(l *api.Lease) { l.Clock = clock })
}

func wantCheck(t *testing.T, l api.Lease, want api.Errno) {
	t.Helper()
	if got := lease.Check(l); got != want {
		t.Fatalf("Check(%+v) = %d; want %d", l, got, want)
	}
}

// wantAct holds what an act of l answers against what it must.
func wantAct(t *testing.T, l api.Lease, a act, next api.Lease, epoch int64, e api.Errno) {
	t.Helper()
	if got, want := do(l, a), (answer{next, epoch, e}); got != want {
		t.Errorf("of %+v: %+v answers %+v; want %+v", l, a, got, want)
	}
}

// wantFault tells that an act of l answers an error, and l as it is.
func wantFault(t *testing.T, l api.Lease, a act, e api.Errno) {
	t.Helper()
	wantAct(t, l, a, l, 0, e)
}

// spoilt are leases that may not be, each for one reason.
func spoilt() []api.Lease {
	unused := api.Lease{Owner: -1, Last: -1, Clock: 5, Until: 5}
	var out []api.Lease
	for _, n := range []int{least, -2, 2, 3, most} {
		out = append(out,
			but(held(0), func(l *api.Lease) { l.Owner = n }),
			but(freed(held(0)), func(l *api.Lease) { l.Last = n }),
			but(held(0), func(l *api.Lease) { l.Owner, l.Last = n, n }),
		)
	}
	for _, n := range []int64{least, -1, api.MaxNum + 1, most} {
		out = append(out,
			but(held(0), func(l *api.Lease) { l.Epoch = n }),
			but(held(0), func(l *api.Lease) { l.Clock = n }),
			but(held(0), func(l *api.Lease) { l.Until = n }),
			but(freed(held(1)), func(l *api.Lease) { l.Epoch = n }),
			but(unused, func(l *api.Lease) { l.Clock, l.Until = n, n }),
			but(unused, func(l *api.Lease) { l.Clock, l.Until = n, 0 }),
		)
	}
	return append(out,
		but(held(0), func(l *api.Lease) { l.Last = 1 }),
		but(held(1), func(l *api.Lease) { l.Last = 0 }),
		but(unused, func(l *api.Lease) { l.Owner = 0 }),
		but(unused, func(l *api.Lease) { l.Owner, l.Until = 1, 21 }),
		but(unused, func(l *api.Lease) { l.Epoch = 1 }),
		but(unused, func(l *api.Lease) { l.Epoch = api.MaxNum }),
		but(unused, func(l *api.Lease) { l.Solo = true }),
		but(unused, func(l *api.Lease) { l.Until = 6 }),
		but(unused, func(l *api.Lease) { l.Until = api.MaxNum }),
		but(held(0), func(l *api.Lease) { l.Epoch = 0 }),
		but(held(1), func(l *api.Lease) { l.Epoch = 0 }),
		but(freed(held(0)), func(l *api.Lease) { l.Epoch = 0 }),
		but(freed(held(1)), func(l *api.Lease) { l.Until = 6 }),
		but(solo(freed(held(1))), func(l *api.Lease) { l.Until = 6 }),
		but(freed(held(0)), func(l *api.Lease) { l.Until = api.MaxNum }),
		api.Lease{},
	)
}

// fine are leases that may be, at the edges of that.
func fine() []api.Lease {
	unused := lease.New()
	return []api.Lease{
		unused,
		at(unused, 5),
		at(unused, api.MaxNum),
		but(unused, func(l *api.Lease) { l.Clock, l.Until = 5, 5 }),
		but(unused, func(l *api.Lease) { l.Clock, l.Until = api.MaxNum, api.MaxNum }),
		held(0), held(1), solo(held(0)), solo(held(1)), over(held(0)), over(held(1)),
		last(held(0)), last(solo(held(1))), last(freed(held(1))),
		freed(held(0)), freed(held(1)), solo(freed(held(0))), solo(freed(held(1))),
		at(freed(held(0)), 6),
		but(held(0), func(l *api.Lease) { l.Epoch = 1 }),
		but(held(0), func(l *api.Lease) { l.Clock, l.Until = 0, 0 }),
		but(held(1), func(l *api.Lease) { l.Clock, l.Until = 0, api.MaxNum }),
		but(held(1), func(l *api.Lease) { l.Clock, l.Until = api.MaxNum, 0 }),
		but(held(0), func(l *api.Lease) { l.Clock, l.Until = api.MaxNum, api.MaxNum }),
		but(freed(held(0)), func(l *api.Lease) { l.Clock, l.Until = 0, 0 }),
		but(freed(held(0)), func(l *api.Lease) { l.Clock, l.Until = api.MaxNum, api.MaxNum }),
	}
}

func TestExample(t *testing.T) {
	l, epoch, e := lease.Acquire(lease.New(), 0)
	if l != (api.Lease{Owner: 0, Last: 0, Epoch: 1, Clock: 0, Until: 16}) || epoch != 1 || e != api.OK {
		t.Fatal(l, epoch, e)
	}
	wantFault(t, l, act{kind: acquire, region: 1}, api.ErrHeld)
	wantFault(t, lease.Tick(l, 15), act{kind: acquire, region: 1}, api.ErrHeld)
	l = lease.Tick(l, 16)
	l, epoch, e = lease.Acquire(l, 1)
	if l != (api.Lease{Owner: 1, Last: 1, Epoch: 2, Clock: 16, Until: 32}) || epoch != 2 || e != api.OK {
		t.Fatal(l, epoch, e)
	}
	wantFault(t, l, act{kind: renew, region: 0, epoch: 1}, api.ErrLost)
}

func TestP131New(t *testing.T) {
	if got, want := lease.New(), (api.Lease{Owner: -1, Last: -1}); got != want {
		t.Errorf("New() = %+v; want %+v", got, want)
	}
}

func TestP131Check(t *testing.T) {
	for _, l := range spoilt() {
		wantCheck(t, l, api.ErrArg)
	}
	for _, l := range fine() {
		wantCheck(t, l, api.OK)
	}
}

// TestP131RefusedLeases: whatever else is handed in, also a call that would be right else, answers ErrArg and the lease as it is.
func TestP131RefusedLeases(t *testing.T) {
	for _, l := range spoilt() {
		for _, a := range acts(l) {
			want := api.ErrArg
			if a.kind == tick {
				want = api.OK
			}
			wantFault(t, l, a, want)
		}
		if lease.Held(l) {
			t.Errorf("Held(%+v)", l)
		}
		wantBytes(t, l, nil, api.ErrArg)
	}
}

func TestP131Tick(t *testing.T) {
	for _, x := range []struct{ clock, n, want int64 }{
		{5, least, 5},
		{5, least + 1, 5},
		{5, -1, 5},
		{5, -5, 5},
		{5, 0, 5},
		{5, 1, 6},
		{5, 16, 21},
		{0, 0, 0},
		{0, -1, 0},
		{0, api.MaxNum - 1, api.MaxNum - 1},
		{0, api.MaxNum, api.MaxNum},
		{0, api.MaxNum + 1, api.MaxNum},
		{5, api.MaxNum - 6, api.MaxNum - 1},
		{5, api.MaxNum - 5, api.MaxNum},
		{5, api.MaxNum - 4, api.MaxNum},
		{5, api.MaxNum, api.MaxNum},
		{5, most, api.MaxNum},
		{5, most - 5, api.MaxNum},
		{api.MaxNum - 1, 1, api.MaxNum},
		{api.MaxNum - 1, 2, api.MaxNum},
		{api.MaxNum, 0, api.MaxNum},
		{api.MaxNum, 1, api.MaxNum},
		{api.MaxNum, most, api.MaxNum},
		{api.MaxNum, -1, api.MaxNum},
		{api.MaxNum, least, api.MaxNum},
	} {
		for _, l := range []api.Lease{lease.New(), held(0), held(1), solo(held(1))} {
			l = at(l, x.clock)
			wantAct(t, l, act{kind: tick, n: x.n}, at(l, x.want), 0, api.OK)
		}
	}
}

func TestP131Held(t *testing.T) {
	for _, x := range []struct {
		l    api.Lease
		want bool
	}{
		{held(0), true},
		{held(1), true},
		{solo(held(0)), true},
		{at(held(0), 20), true},
		{at(held(0), 21), false},
		{at(held(1), 22), false},
		{at(solo(held(1)), 21), false},
		{at(held(0), api.MaxNum), false},
		{but(held(1), func(l *api.Lease) { l.Clock, l.Until = api.MaxNum-1, api.MaxNum }), true},
		{but(held(1), func(l *api.Lease) { l.Clock, l.Until = api.MaxNum, api.MaxNum }), false},
		{lease.New(), false},
		{freed(held(0)), false},
		{freed(solo(held(1))), false},
		{at(freed(held(0)), 6), false},
	} {
		if got := lease.Held(x.l); got != x.want {
			t.Errorf("Held(%+v) = %v; want %v", x.l, got, x.want)
		}
	}
}

func TestP132Acquire(t *testing.T) {
	for region := range api.Regions {
		other := 1 - region
		a := act{kind: acquire, region: region}
		granted := but(held(region), func(l *api.Lease) { l.Epoch = 8 })
		first := but(held(region), func(l *api.Lease) { l.Epoch = 1 })
		later := but(granted, func(l *api.Lease) { l.Clock, l.Until = 21, 37 })
		// Of nobody ever, by nobody now, by the same region, and of one that has run out.
		wantAct(t, at(lease.New(), 5), a, first, 1, api.OK)
		wantAct(t, freed(held(region)), a, granted, 8, api.OK)
		wantAct(t, freed(held(other)), a, granted, 8, api.OK)
		wantAct(t, held(region), a, granted, 8, api.OK)
		wantAct(t, over(held(region)), a, later, 8, api.OK)
		wantAct(t, over(held(other)), a, later, 8, api.OK)
		// Solo: the one that acknowledged alone takes it on so, the other one does not get it.
		wantAct(t, solo(freed(held(region))), a, solo(granted), 8, api.OK)
		wantAct(t, solo(held(region)), a, solo(granted), 8, api.OK)
		wantAct(t, solo(over(held(region))), a, solo(later), 8, api.OK)
		wantFault(t, solo(freed(held(other))), a, api.ErrStale)
		wantFault(t, solo(over(held(other))), a, api.ErrStale)
		// By the other one.
		wantFault(t, held(other), a, api.ErrHeld)
		wantFault(t, at(held(other), 20), a, api.ErrHeld)
		// The last epochs.
		full := last(freed(held(other)))
		wantFault(t, full, a, api.ErrFull)
		wantFault(t, last(held(region)), a, api.ErrFull)
		wantFault(t, last(solo(held(region))), a, api.ErrFull)
		wantAct(t, but(full, func(l *api.Lease) { l.Epoch-- }), a, last(granted), api.MaxNum, api.OK)
	}
}

func TestP132AcquireWhichErrorFirst(t *testing.T) {
	for region := range api.Regions {
		other := 1 - region
		a := act{kind: acquire, region: region}
		wantFault(t, solo(held(other)), a, api.ErrHeld)
		wantFault(t, last(held(other)), a, api.ErrHeld)
		wantFault(t, last(solo(held(other))), a, api.ErrHeld)
		wantFault(t, last(solo(over(held(other)))), a, api.ErrStale)
		wantFault(t, last(solo(freed(held(other)))), a, api.ErrStale)
	}
}

// ends are clocks at which a lease's time comes near the last tick, and until when it is granted then.
func ends() map[int64]int64 {
	return map[int64]int64{
		0:               16,
		5:               21,
		21:              37,
		api.MaxNum - 18: api.MaxNum - 2,
		api.MaxNum - 17: api.MaxNum - 1,
		api.MaxNum - 16: api.MaxNum,
		api.MaxNum - 15: api.MaxNum,
		api.MaxNum - 1:  api.MaxNum,
		api.MaxNum:      api.MaxNum,
	}
}

func TestP132Until(t *testing.T) {
	for clock, until := range ends() {
		renewed := but(held(0), func(l *api.Lease) { l.Clock, l.Until = clock, until })
		granted := but(renewed, func(l *api.Lease) { l.Epoch = 8 })
		given := but(granted, func(l *api.Lease) { l.Owner, l.Last = 1, 1 })
		wantAct(t, at(held(0), clock), act{kind: acquire, region: 0}, granted, 8, api.OK)
		wantAct(t, at(held(0), clock), act{kind: renew, region: 0, epoch: 7}, renewed, 0, api.OK)
		wantAct(t, at(held(0), clock), act{kind: transfer, region: 0, epoch: 7, to: 1}, given, 8, api.OK)
		if got, want := lease.Held(granted), clock < api.MaxNum; got != want {
			t.Errorf("granted at %d it is held: %v; want %v", clock, got, want)
		}
	}
}

func TestP132Renew(t *testing.T) {
	for region := range api.Regions {
		a := act{kind: renew, region: region, epoch: 7}
		wantAct(t, held(region), a, held(region), 0, api.OK)
		wantAct(t, at(held(region), 6), a, but(held(region), func(l *api.Lease) { l.Clock, l.Until = 6, 22 }), 0, api.OK)
		wantAct(t, solo(at(held(region), 6)), a, solo(but(held(region), func(l *api.Lease) { l.Clock, l.Until = 6, 22 })), 0, api.OK)
		// What had run out, just now and long ago.
		wantAct(t, over(held(region)), a, but(held(region), func(l *api.Lease) { l.Clock, l.Until = 21, 37 }), 0, api.OK)
		wantAct(t, at(held(region), 1000), a, but(held(region), func(l *api.Lease) { l.Clock, l.Until = 1000, 1016 }), 0, api.OK)
		// It is from now on, also where it had more.
		wantAct(t, but(held(region), func(l *api.Lease) { l.Until = 100 }), a, held(region), 0, api.OK)
		// No epoch is used up.
		a.epoch = api.MaxNum
		wantAct(t, last(held(region)), a, last(held(region)), 0, api.OK)
	}
}

func TestP132Release(t *testing.T) {
	for region := range api.Regions {
		a := act{kind: release, region: region, epoch: 7}
		wantAct(t, held(region), a, freed(held(region)), 0, api.OK)
		wantAct(t, solo(held(region)), a, solo(freed(held(region))), 0, api.OK)
		wantAct(t, at(held(region), 6), a, but(held(region), func(l *api.Lease) { l.Owner, l.Clock, l.Until = -1, 6, 6 }), 0, api.OK)
		wantAct(t, at(held(region), 100), a, but(held(region), func(l *api.Lease) { l.Owner, l.Clock, l.Until = -1, 100, 100 }), 0, api.OK)
		a.epoch = api.MaxNum
		wantAct(t, last(held(region)), a, last(freed(held(region))), 0, api.OK)
	}
}

func TestP133Transfer(t *testing.T) {
	for region := range api.Regions {
		other := 1 - region
		a := act{kind: transfer, region: region, epoch: 7, to: other}
		given := but(held(other), func(l *api.Lease) { l.Epoch = 8 })
		wantAct(t, held(region), a, given, 8, api.OK)
		wantAct(t, over(held(region)), a, but(given, func(l *api.Lease) { l.Clock, l.Until = 21, 37 }), 8, api.OK)
		wantFault(t, solo(held(region)), a, api.ErrStale)
		wantFault(t, solo(over(held(region))), a, api.ErrStale)
		// Which one comes first: a region that there is not, or oneself; a lost lease; Solo; no more epochs.
		for _, to := range []int{least, -2, -1, region, 2, 3, most} {
			a.to = to
			wantFault(t, held(region), a, api.ErrArg)
			wantFault(t, solo(last(held(region))), a, api.ErrArg)
			wantFault(t, solo(last(held(other))), a, api.ErrArg)
		}
		a.to = other
		wantFault(t, solo(held(other)), a, api.ErrLost)
		wantFault(t, last(held(other)), a, api.ErrLost)
		wantFault(t, last(solo(held(region))), a, api.ErrLost)
		a.epoch = api.MaxNum
		wantFault(t, last(solo(held(region))), a, api.ErrStale)
		wantFault(t, last(held(region)), a, api.ErrFull)
		a.epoch = api.MaxNum - 1
		wantAct(t, but(held(region), func(l *api.Lease) { l.Epoch = api.MaxNum - 1 }), a, last(given), api.MaxNum, api.OK)
	}
}

func TestP133Alone(t *testing.T) {
	for region := range api.Regions {
		for _, wish := range []bool{false, true} {
			a := act{kind: alone, region: region, epoch: 7, solo: wish}
			for _, l := range []api.Lease{held(region), over(held(region)), at(held(region), 1000)} {
				want := but(l, func(l *api.Lease) { l.Solo = wish })
				wantAct(t, l, a, want, 0, api.OK)
				wantAct(t, solo(l), a, want, 0, api.OK)
			}
			a.epoch = api.MaxNum
			wantAct(t, last(held(region)), a, but(last(held(region)), func(l *api.Lease) { l.Solo = wish }), 0, api.OK)
		}
	}
}

// claims are the calls of somebody who says that he owns the lease under an epoch.
func claims(region int, epoch int64) []act {
	return []act{
		{kind: renew, region: region, epoch: epoch},
		{kind: release, region: region, epoch: epoch},
		{kind: transfer, region: region, epoch: epoch, to: 0},
		{kind: transfer, region: region, epoch: epoch, to: 1},
		{kind: alone, region: region, epoch: epoch},
		{kind: alone, region: region, epoch: epoch, solo: true},
	}
}

// TestP132P133NoSuchRegion: ErrArg comes ahead of all other errors.
func TestP132P133NoSuchRegion(t *testing.T) {
	for _, region := range []int{least, -2, -1, 2, 3, most} {
		for _, l := range fine() {
			wantFault(t, l, act{kind: acquire, region: region}, api.ErrArg)
			for _, epoch := range epochs(l) {
				for _, a := range claims(region, epoch) {
					wantFault(t, l, a, api.ErrArg)
				}
			}
		}
	}
}

// TestP132P133Lost: of another epoch, of the other region, of nobody, whether its time is over or not.
func TestP132P133Lost(t *testing.T) {
	for region := range api.Regions {
		other := 1 - region
		lost := func(l api.Lease, epoch int64) {
			t.Helper()
			for _, a := range claims(region, epoch) {
				if a.kind != transfer || a.to == other {
					wantFault(t, l, a, api.ErrLost)
				}
			}
		}
		for _, epoch := range []int64{least, -7, -1, 0, 1, 6, 8, 7 + 1<<32, api.MaxNum, api.MaxNum + 1, most} {
			lost(held(region), epoch)
			lost(solo(held(region)), epoch)
			lost(over(held(region)), epoch)
		}
		for _, l := range []api.Lease{held(other), solo(held(other)), over(held(other)), freed(held(region)), solo(freed(held(region))), freed(held(other))} {
			lost(l, 7)
			lost(l, 6)
			lost(l, 8)
		}
		lost(last(held(other)), api.MaxNum)
		lost(last(freed(held(region))), api.MaxNum)
		lost(lease.New(), 0)
		lost(at(lease.New(), 5), 0)
		lost(lease.New(), 1)
	}
}

// TestR1NoCallPanics: at all numbers at the edges of their types; of leases that may not be as of those that may.
func TestR1NoCallPanics(t *testing.T) {
	numbers := []int64{least, -1, 0, 1, api.MaxNum, most}
	for _, l := range append(spoilt(), fine()...) {
		for _, n := range numbers {
			for _, wild := range []api.Lease{l, but(l, func(l *api.Lease) { l.Clock = n }), but(l, func(l *api.Lease) { l.Until = n }), but(l, func(l *api.Lease) { l.Epoch = n })} {
				for _, a := range acts(wild) {
					checkAct(t, wild, a)
				}
				checkLease(t, wild)
			}
		}
	}
}

// TestR5UnmadeLease: a lease that no call made is one that Check refuses.
func TestR5UnmadeLease(t *testing.T) {
	var l api.Lease
	wantCheck(t, l, api.ErrArg)
	for _, a := range []act{
		{kind: acquire},
		{kind: acquire, region: 1},
		{kind: renew},
		{kind: release},
		{kind: transfer, to: 1},
		{kind: alone},
		{kind: alone, solo: true},
	} {
		wantFault(t, l, a, api.ErrArg)
	}
	wantAct(t, l, act{kind: tick, n: 5}, l, 0, api.OK)
	if lease.Held(l) {
		t.Error("a lease that no call made is held")
	}
	wantBytes(t, l, nil, api.ErrArg)
}

// TestR6SameAnswers: a call leaves nothing behind that another one could see.
func TestR6SameAnswers(t *testing.T) {
	for _, l := range fine() {
		for _, a := range acts(l) {
			first := do(l, a)
			lease.Acquire(lease.New(), 1)
			lease.Tick(l, 3)
			if again := do(l, a); again != first {
				t.Fatalf("of %+v: %+v answers %+v, and then %+v", l, a, first, again)
			}
		}
	}
}
