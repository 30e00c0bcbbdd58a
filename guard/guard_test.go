package guard_test

import (
	"reflect"
	"testing"

	"pontoon/api"
	"pontoon/guard"
)

// free is a guard without an epoch that has asked nothing, at the tick 20.
func free() api.Guard {
	return api.Guard{Clock: 20, Serial: 4}
}

// has is a guard that believes in epoch 7 up to the tick 29, and has asked nothing.
func has() api.Guard {
	return api.Guard{Clock: 20, Epoch: 7, Until: 29, Serial: 4}
}

// acquires is a guard that has asked for a lease at the tick 18.
func acquires() api.Guard {
	return api.Guard{Clock: 20, Serial: 4, Kind: api.GdAcquire, Asked: 18}
}

// renews is a guard that believes up to the tick 25, and has asked for more time at the tick 18.
func renews() api.Guard {
	return api.Guard{Clock: 20, Epoch: 7, Until: 25, Serial: 4, Kind: api.GdRenew, Asked: 18}
}

// takesAnew is a guard that believes up to the tick 25, and has asked for a new lease at the tick 18.
func takesAnew() api.Guard {
	return but(renews(), func(g *api.Guard) { g.Kind = api.GdAcquire })
}

// but is g with a change.
func but(g api.Guard, change func(g *api.Guard)) api.Guard {
	change(&g)
	return g
}

// at is g at another tick.
func at(g api.Guard, clock int64) api.Guard {
	return but(g, func(g *api.Guard) { g.Clock = clock })
}

// serial is g with another number of its last question.
func serial(g api.Guard, n int64) api.Guard {
	return but(g, func(g *api.Guard) { g.Serial = n })
}

func wantCheck(t *testing.T, g api.Guard, want api.Errno) {
	t.Helper()
	if got := guard.Check(g); got != want {
		t.Fatalf("Check(%+v) = %d; want %d", g, got, want)
	}
}

func wantTold(t *testing.T, g api.Guard, believes bool, left int64, due bool) {
	t.Helper()
	if got := guard.Believes(g); got != believes {
		t.Fatalf("Believes(%+v) = %v; want %v", g, got, believes)
	}
	if got := guard.Left(g); got != left {
		t.Fatalf("Left(%+v) = %d; want %d", g, got, left)
	}
	if got := guard.Due(g); got != due {
		t.Fatalf("Due(%+v) = %v; want %v", g, got, due)
	}
}

// wantAct holds what an act of g answers against what it must.
func wantAct(t *testing.T, g api.Guard, a act, want answer) {
	t.Helper()
	if got := do(g, a); got != want {
		t.Errorf("of %+v: %+v answers %+v; want %+v", g, a, got, want)
	}
}

// wantNo tells that an act of g, an answer that came, does not count.
func wantNo(t *testing.T, g api.Guard, a act) {
	t.Helper()
	wantAct(t, g, a, answer{guard: g})
}

// fine are guards that may be, at the edges of that.
func fine() []api.Guard {
	var out []api.Guard
	for _, n := range []int64{0, 1, api.MaxNum - 1, api.MaxNum} {
		out = append(out,
			at(free(), n),
			but(has(), func(g *api.Guard) { g.Clock, g.Until = n, n }),
			but(has(), func(g *api.Guard) { g.Clock, g.Until = n, 0 }),
			serial(free(), n),
			serial(has(), n),
			but(renews(), func(g *api.Guard) { g.Asked, g.Clock, g.Until = n, n, n }),
			but(acquires(), func(g *api.Guard) { g.Asked, g.Clock = n, n }),
		)
	}
	return append(out,
		free(), has(), acquires(), renews(), takesAnew(),
		but(has(), func(g *api.Guard) { g.Epoch = 1 }),
		but(has(), func(g *api.Guard) { g.Epoch = api.MaxNum }),
		but(has(), func(g *api.Guard) { g.Epoch, g.Until = 0, 0 }),
		but(has(), func(g *api.Guard) { g.Until = 0 }),
		but(has(), func(g *api.Guard) { g.Until = 31 }),
		but(has(), func(g *api.Guard) { g.Until = 32 }),
		but(renews(), func(g *api.Guard) { g.Until = 32 }),
		but(has(), func(g *api.Guard) { g.Clock, g.Until = api.MaxNum-12, api.MaxNum }),
		but(has(), func(g *api.Guard) { g.Clock, g.Until = api.MaxNum-11, api.MaxNum }),
		serial(acquires(), 1), serial(renews(), 1),
		serial(acquires(), api.MaxNum), serial(renews(), api.MaxNum),
		but(acquires(), func(g *api.Guard) { g.Asked = 0 }),
		but(acquires(), func(g *api.Guard) { g.Asked = 19 }),
		but(acquires(), func(g *api.Guard) { g.Asked = 20 }),
		but(renews(), func(g *api.Guard) { g.Asked = 0 }),
		but(renews(), func(g *api.Guard) { g.Asked = 20 }),
		api.Guard{Serial: 1, Kind: api.GdAcquire},
	)
}

// spoilt are guards that may not be, each for one reason.
func spoilt() []api.Guard {
	var out []api.Guard
	for _, n := range []int64{least, least + 1, -1, api.MaxNum + 1, most - 12, most} {
		out = append(out,
			at(free(), n),
			but(has(), func(g *api.Guard) { g.Clock, g.Until = n, 0 }),
			but(has(), func(g *api.Guard) { g.Epoch = n }),
			but(renews(), func(g *api.Guard) { g.Epoch = n }),
			serial(free(), n), serial(has(), n), serial(acquires(), n), serial(renews(), n),
			// Of a clock next to which it would be fine but for its being out of range.
			but(has(), func(g *api.Guard) { g.Clock, g.Until = api.MaxNum, n }),
			but(renews(), func(g *api.Guard) { g.Clock, g.Asked = api.MaxNum, n }),
			but(acquires(), func(g *api.Guard) { g.Clock, g.Asked = n, n }),
		)
	}
	for _, n := range []int64{1, 19, 20, 21, 32} {
		out = append(out,
			but(free(), func(g *api.Guard) { g.Until = n }),
			but(acquires(), func(g *api.Guard) { g.Until = n }),
		)
	}
	for _, n := range []int64{33, 34, 1000, api.MaxNum} {
		out = append(out,
			but(has(), func(g *api.Guard) { g.Until = n }),
			but(renews(), func(g *api.Guard) { g.Until = n }),
		)
	}
	for _, kind := range []int{least, -2, -1, 3, 4, 1 << 32, most} {
		out = append(out,
			but(acquires(), func(g *api.Guard) { g.Kind = kind }),
			but(renews(), func(g *api.Guard) { g.Kind = kind }),
			but(has(), func(g *api.Guard) { g.Kind = kind }),
		)
	}
	for _, n := range []int64{1, 18, 20, 21, api.MaxNum} {
		out = append(out,
			but(free(), func(g *api.Guard) { g.Asked = n }),
			but(has(), func(g *api.Guard) { g.Asked = n }),
		)
	}
	for _, n := range []int64{21, 22, api.MaxNum} {
		out = append(out,
			but(acquires(), func(g *api.Guard) { g.Asked = n }),
			but(renews(), func(g *api.Guard) { g.Asked = n }),
		)
	}
	return append(out,
		but(has(), func(g *api.Guard) { g.Clock, g.Until = api.MaxNum-13, api.MaxNum }),
		serial(acquires(), 0), serial(renews(), 0),
		but(acquires(), func(g *api.Guard) { g.Kind = api.GdRenew }),
		but(renews(), func(g *api.Guard) { g.Epoch, g.Until = 0, 0 }),
	)
}

func TestExample(t *testing.T) {
	g, serial, kind, e := guard.Ask(guard.Tick(guard.New(), 5))
	if g != (api.Guard{Clock: 5, Serial: 1, Kind: api.GdAcquire, Asked: 5}) || serial != 1 || kind != api.GdAcquire || e != api.OK {
		t.Fatal(g, serial, kind, e)
	}
	wantAct(t, guard.Tick(g, 1), act{kind: ask}, answer{guard: at(g, 6), err: api.ErrAsked})
	g, is := guard.Granted(guard.Tick(g, 3), serial, 1)
	if g != (api.Guard{Clock: 8, Epoch: 1, Until: 17, Serial: 1}) || !is {
		t.Fatal(g, is)
	}
	for clock := int64(8); clock < 30; clock++ {
		wantTold(t, g, clock < 17, max(17-clock, 0), clock >= 11)
		g = guard.Tick(g, 1)
	}
}

// TestLimits: the numbers that the chapter tells.
func TestLimits(t *testing.T) {
	got := []int64{api.LeaseTicks, api.Drift, api.GuardTicks, api.AskTicks, api.RenewAt, api.MaxNum, int64(api.ErrAsked), api.GdAcquire, api.GdRenew}
	if want := []int64{16, 4, 12, 4, 6, end, 140, 1, 2}; !reflect.DeepEqual(got, want) {
		t.Errorf("%v; want %v", got, want)
	}
}

func TestP141New(t *testing.T) {
	g := guard.New()
	if g != (api.Guard{}) {
		t.Errorf("New() = %+v", g)
	}
	wantCheck(t, g, api.OK)
	wantTold(t, g, false, 0, true)
}

func TestP141Check(t *testing.T) {
	for _, g := range spoilt() {
		wantCheck(t, g, api.ErrArg)
	}
	for _, g := range fine() {
		wantCheck(t, g, api.OK)
	}
}

// TestP141RefusedGuards: all other calls take them as New, whatever else is handed in, also what would count of a guard that may be.
func TestP141RefusedGuards(t *testing.T) {
	for _, g := range spoilt() {
		wantTold(t, g, false, 0, true)
		wantAct(t, g, act{kind: ask}, answer{guard: api.Guard{Serial: 1, Kind: api.GdAcquire}, serial: 1, kind: api.GdAcquire})
		for _, a := range acts(g) {
			switch {
			case a.kind == ask:
			case a.kind == tick && a.n > 0:
				wantAct(t, g, a, answer{guard: api.Guard{Clock: min(a.n, api.MaxNum)}})
			default:
				wantAct(t, g, a, answer{})
			}
			if got, want := do(g, a), do(guard.New(), a); got != want {
				t.Errorf("of %+v: %+v answers %+v; of New %+v", g, a, got, want)
			}
		}
	}
}

func TestP141Tick(t *testing.T) {
	for _, x := range []struct{ clock, n, want int64 }{
		{20, least, 20},
		{20, least + 1, 20},
		{20, -20, 20},
		{20, -1, 20},
		{20, 0, 20},
		{20, 1, 21},
		{20, 12, 32},
		{20, api.MaxNum - 21, api.MaxNum - 1},
		{20, api.MaxNum - 20, api.MaxNum},
		{20, api.MaxNum - 19, api.MaxNum},
		{20, api.MaxNum, api.MaxNum},
		{20, most - 20, api.MaxNum},
		{20, most - 19, api.MaxNum},
		{20, most, api.MaxNum},
		{api.MaxNum - 1, 1, api.MaxNum},
		{api.MaxNum - 1, 2, api.MaxNum},
		{api.MaxNum, 0, api.MaxNum},
		{api.MaxNum, 1, api.MaxNum},
		{api.MaxNum, most, api.MaxNum},
		{api.MaxNum, -1, api.MaxNum},
		{api.MaxNum, least, api.MaxNum},
	} {
		for _, g := range []api.Guard{free(), has(), acquires(), renews(), takesAnew()} {
			g = at(g, x.clock)
			wantAct(t, g, act{kind: tick, n: x.n}, answer{guard: at(g, x.want)})
		}
	}
	wantAct(t, guard.New(), act{kind: tick, n: api.MaxNum}, answer{guard: api.Guard{Clock: api.MaxNum}})
	wantAct(t, guard.New(), act{kind: tick, n: most}, answer{guard: api.Guard{Clock: api.MaxNum}})
}

func TestP141BelievesAndLeft(t *testing.T) {
	for _, x := range []struct{ clock, until, left int64 }{
		{20, 32, 12},
		{20, 31, 11},
		{20, 22, 2},
		{20, 21, 1},
		{20, 20, 0},
		{20, 19, 0},
		{20, 0, 0},
		{0, 12, 12},
		{0, 1, 1},
		{0, 0, 0},
		{api.MaxNum - 12, api.MaxNum, 12},
		{api.MaxNum - 1, api.MaxNum, 1},
		{api.MaxNum, api.MaxNum, 0},
		{api.MaxNum, 0, 0},
	} {
		for _, epoch := range []int64{1, 7, api.MaxNum} {
			g := api.Guard{Clock: x.clock, Epoch: epoch, Until: x.until}
			wantTold(t, g, x.left > 0, x.left, x.left <= 6)
			// A question that is under way takes nothing from it.
			g.Serial, g.Kind, g.Asked = 4, api.GdRenew, x.clock
			wantTold(t, g, x.left > 0, x.left, false)
		}
	}
	wantTold(t, free(), false, 0, true)
	wantTold(t, acquires(), false, 0, false)
}

func TestP142Due(t *testing.T) {
	for _, x := range []struct {
		until int64
		want  bool
	}{{0, true}, {20, true}, {21, true}, {25, true}, {26, true}, {27, false}, {28, false}, {32, false}} {
		g := but(has(), func(g *api.Guard) { g.Until = x.until })
		wantTold(t, g, x.until > 20, max(x.until-20, 0), x.want)
		for asked := int64(0); asked <= 20; asked++ {
			for kind := api.GdAcquire; kind <= api.GdRenew; kind++ {
				g.Kind, g.Asked = kind, asked
				wantTold(t, g, x.until > 20, max(x.until-20, 0), x.want && asked <= 16)
			}
		}
	}
	for asked := int64(0); asked <= 20; asked++ {
		wantTold(t, but(acquires(), func(g *api.Guard) { g.Asked = asked }), false, 0, asked <= 16)
	}
	// Whether a serial is left does not count.
	wantTold(t, serial(free(), api.MaxNum), false, 0, true)
	wantTold(t, serial(at(acquires(), 22), api.MaxNum), false, 0, true)
}

func TestP142Ask(t *testing.T) {
	for clock := range int64(30) {
		g := at(free(), clock)
		asked := api.Guard{Clock: clock, Serial: 5, Kind: api.GdAcquire, Asked: clock}
		wantAct(t, g, act{kind: ask}, answer{guard: asked, serial: 5, kind: api.GdAcquire})
	}
	// It may ask for more time whether it is due or not, believes or not.
	for until := range int64(33) {
		g := but(has(), func(g *api.Guard) { g.Until = until })
		asked := api.Guard{Clock: 20, Epoch: 7, Until: until, Serial: 5, Kind: api.GdRenew, Asked: 20}
		wantAct(t, g, act{kind: ask}, answer{guard: asked, serial: 5, kind: api.GdRenew})
	}
	wantAct(t, guard.New(), act{kind: ask}, answer{guard: api.Guard{Serial: 1, Kind: api.GdAcquire}, serial: 1, kind: api.GdAcquire})
	late := api.Guard{Clock: api.MaxNum, Epoch: 7, Until: api.MaxNum, Serial: 4}
	asked := api.Guard{Clock: api.MaxNum, Epoch: 7, Until: api.MaxNum, Serial: 5, Kind: api.GdRenew, Asked: api.MaxNum}
	wantAct(t, late, act{kind: ask}, answer{guard: asked, serial: 5, kind: api.GdRenew})
}

// TestP142AskAnew: behind AskTicks, with a new serial; the new question's kind hangs on the epoch alone.
func TestP142AskAnew(t *testing.T) {
	for _, g := range []api.Guard{acquires(), renews(), takesAnew()} {
		kind := api.GdRenew
		if g.Epoch == 0 {
			kind = api.GdAcquire
		}
		for clock := int64(18); clock < 40; clock++ {
			g := but(g, func(g *api.Guard) { g.Clock, g.Until = clock, min(g.Until, clock) })
			want := answer{guard: g, err: api.ErrAsked}
			if clock >= 22 {
				asked := but(g, func(g *api.Guard) { g.Serial, g.Kind, g.Asked = 5, kind, clock })
				want = answer{guard: asked, serial: 5, kind: kind}
			}
			wantAct(t, g, act{kind: ask}, want)
		}
	}
	// A clock that stands still at its end brings no fifth tick.
	for _, asked := range []int64{api.MaxNum - 3, api.MaxNum} {
		g := api.Guard{Clock: api.MaxNum, Serial: 4, Kind: api.GdAcquire, Asked: asked}
		wantAct(t, g, act{kind: ask}, answer{guard: g, err: api.ErrAsked})
	}
}

func TestP142AskLastSerials(t *testing.T) {
	for _, g := range []api.Guard{free(), has(), at(acquires(), 22), at(renews(), 22), at(takesAnew(), 22)} {
		g = serial(g, api.MaxNum)
		wantAct(t, g, act{kind: ask}, answer{guard: g, err: api.ErrFull})
		g = serial(g, api.MaxNum-1)
		x := do(g, act{kind: ask})
		if x.err != api.OK || x.serial != api.MaxNum || x.guard.Serial != api.MaxNum {
			t.Errorf("Ask(%+v) answers %+v", g, x)
		}
	}
	// Which error comes first.
	for _, g := range []api.Guard{acquires(), renews(), takesAnew(), at(acquires(), 21), at(renews(), 18)} {
		g = serial(g, api.MaxNum)
		wantAct(t, g, act{kind: ask}, answer{guard: g, err: api.ErrAsked})
	}
}

// TestP143NoQuestion: nothing is awaited, so that no answer counts.
func TestP143NoQuestion(t *testing.T) {
	for _, g := range []api.Guard{guard.New(), free(), has(), serial(free(), 0), serial(has(), api.MaxNum)} {
		for _, serial := range []int64{-1, 0, 1, g.Serial - 1, g.Serial, g.Serial + 1} {
			wantNo(t, g, act{kind: refused, serial: serial})
			for _, epoch := range []int64{0, 1, 7, 8, api.MaxNum} {
				wantNo(t, g, act{kind: granted, serial: serial, epoch: epoch})
			}
		}
	}
}

// TestP143OtherSerials: of an older question, of one that was not asked yet, of none.
func TestP143OtherSerials(t *testing.T) {
	for _, g := range []api.Guard{acquires(), renews(), takesAnew()} {
		for _, serial := range []int64{least, -4, -1, 0, 1, 3, 5, 6, 4 + 1<<32, api.MaxNum, most} {
			wantNo(t, g, act{kind: refused, serial: serial})
			for _, epoch := range []int64{1, 7, 8} {
				wantNo(t, g, act{kind: granted, serial: serial, epoch: epoch})
			}
		}
	}
	g := serial(acquires(), api.MaxNum)
	wantNo(t, g, act{kind: granted, serial: api.MaxNum - 1, epoch: 1})
	wantNo(t, g, act{kind: granted, serial: api.MaxNum + 1, epoch: 1})
	wantAct(t, g, act{kind: granted, serial: api.MaxNum, epoch: 1}, answer{guard: api.Guard{Clock: 20, Epoch: 1, Until: 30, Serial: api.MaxNum}, is: true})
}

// TestP143OlderSerial: who has asked anew does not take the answer to the question before, and takes that to the new one once.
func TestP143OlderSerial(t *testing.T) {
	g, first, _, _ := guard.Ask(guard.New())
	g, second, _, _ := guard.Ask(guard.Tick(g, 4))
	wantNo(t, g, act{kind: granted, serial: first, epoch: 1})
	wantNo(t, g, act{kind: refused, serial: first})
	has := api.Guard{Clock: 4, Epoch: 2, Until: 16, Serial: second}
	wantAct(t, g, act{kind: granted, serial: second, epoch: 2}, answer{guard: has, is: true})
	wantNo(t, has, act{kind: granted, serial: second, epoch: 2})
	wantNo(t, has, act{kind: granted, serial: second, epoch: 3})
	wantNo(t, has, act{kind: refused, serial: second})
}

func TestP143GrantedEpochs(t *testing.T) {
	for _, epoch := range []int64{least, -7, -1, 0, api.MaxNum + 1, most} {
		for _, g := range []api.Guard{acquires(), renews(), takesAnew()} {
			wantNo(t, g, act{kind: granted, serial: 4, epoch: epoch})
		}
	}
	for _, epoch := range []int64{1, 2, 6, 7, 8, api.MaxNum - 1, api.MaxNum} {
		a := act{kind: granted, serial: 4, epoch: epoch}
		has := api.Guard{Clock: 20, Epoch: epoch, Until: 30, Serial: 4}
		wantAct(t, acquires(), a, answer{guard: has, is: true})
		wantAct(t, takesAnew(), a, answer{guard: has, is: true})
		if epoch == 7 {
			wantAct(t, renews(), a, answer{guard: has, is: true})
			continue
		}
		wantNo(t, renews(), a)
	}
	late := but(renews(), func(g *api.Guard) { g.Epoch = api.MaxNum })
	wantNo(t, late, act{kind: granted, serial: 4, epoch: api.MaxNum - 1})
	wantAct(t, late, act{kind: granted, serial: 4, epoch: api.MaxNum}, answer{guard: api.Guard{Clock: 20, Epoch: api.MaxNum, Until: 30, Serial: 4}, is: true})
}

// TestP143GrantedUntil: of more time the greater one counts, of a new lease the new one alone, whether it is over by then or not.
func TestP143GrantedUntil(t *testing.T) {
	a := act{kind: granted, serial: 4, epoch: 7}
	for until := range int64(33) {
		g := but(renews(), func(g *api.Guard) { g.Until = until })
		wantAct(t, g, a, answer{guard: api.Guard{Clock: 20, Epoch: 7, Until: max(until, 30), Serial: 4}, is: true})
		g.Kind = api.GdAcquire
		wantAct(t, g, a, answer{guard: api.Guard{Clock: 20, Epoch: 7, Until: 30, Serial: 4}, is: true})
	}
	for asked := range int64(21) {
		has := api.Guard{Clock: 20, Epoch: 7, Until: asked + 12, Serial: 4}
		wantAct(t, but(acquires(), func(g *api.Guard) { g.Asked = asked }), a, answer{guard: has, is: true})
		wantTold(t, has, asked > 8, max(asked-8, 0), asked <= 14)
		has.Until = max(has.Until, 25)
		wantAct(t, but(renews(), func(g *api.Guard) { g.Asked = asked }), a, answer{guard: has, is: true})
	}
}

func TestP143GrantedNearTheEnd(t *testing.T) {
	a := act{kind: granted, serial: 4, epoch: 7}
	for _, x := range []struct{ asked, until int64 }{
		{api.MaxNum - 24, api.MaxNum - 12},
		{api.MaxNum - 14, api.MaxNum - 2},
		{api.MaxNum - 13, api.MaxNum - 1},
		{api.MaxNum - 12, api.MaxNum},
		{api.MaxNum - 11, api.MaxNum},
		{api.MaxNum - 1, api.MaxNum},
		{api.MaxNum, api.MaxNum},
	} {
		for _, clock := range []int64{x.asked, api.MaxNum} {
			for _, g := range []api.Guard{acquires(), renews(), takesAnew()} {
				g.Clock, g.Asked = clock, x.asked
				want := api.Guard{Clock: clock, Epoch: 7, Until: x.until, Serial: 4}
				wantAct(t, g, a, answer{guard: want, is: true})
				wantTold(t, want, clock < api.MaxNum, x.until-min(clock, x.until), x.until-min(clock, x.until) <= 6)
			}
		}
	}
}

func TestP143Refused(t *testing.T) {
	a := act{kind: refused, serial: 4}
	wantAct(t, acquires(), a, answer{guard: free(), is: true})
	wantAct(t, renews(), a, answer{guard: free(), is: true})
	// Of a new lease: what it has it keeps.
	wantAct(t, takesAnew(), a, answer{guard: but(has(), func(g *api.Guard) { g.Until = 25 }), is: true})
	for clock := int64(18); clock < 40; clock++ {
		wantAct(t, at(acquires(), clock), a, answer{guard: at(free(), clock), is: true})
		wantAct(t, but(renews(), func(g *api.Guard) { g.Clock, g.Until = clock, 18 }), a, answer{guard: at(free(), clock), is: true})
	}
	wantAct(t, serial(renews(), api.MaxNum), act{kind: refused, serial: api.MaxNum}, answer{guard: serial(free(), api.MaxNum), is: true})
}

func TestP143Yield(t *testing.T) {
	for _, g := range []api.Guard{free(), has(), acquires(), renews(), takesAnew()} {
		wantAct(t, g, act{kind: yield}, answer{guard: free()})
	}
	for _, g := range fine() {
		want := answer{guard: api.Guard{Clock: g.Clock, Serial: g.Serial}}
		wantAct(t, g, act{kind: yield}, want)
		wantNo(t, want.guard, act{kind: granted, serial: g.Serial, epoch: max(g.Epoch, 1)})
	}
}

func TestP143Above(t *testing.T) {
	for _, g := range []api.Guard{has(), renews(), takesAnew()} {
		for _, epoch := range []int64{least, -8, -1, 0, 1, 6, 7} {
			wantAct(t, g, act{kind: above, epoch: epoch}, answer{guard: g})
		}
		for _, epoch := range []int64{8, 9, 7 + 1<<32, api.MaxNum, api.MaxNum + 1, most} {
			wantAct(t, g, act{kind: above, epoch: epoch}, answer{guard: free()})
		}
		// Of the last epoch, and whether it believes or not.
		g.Epoch, g.Until = api.MaxNum, 0
		wantAct(t, g, act{kind: above, epoch: api.MaxNum}, answer{guard: g})
		wantAct(t, g, act{kind: above, epoch: api.MaxNum + 1}, answer{guard: free()})
	}
	// Without an epoch it has nothing to let go of, and a question of it goes on.
	for _, g := range []api.Guard{guard.New(), free(), acquires()} {
		for _, epoch := range []int64{least, -1, 0, 1, 7, api.MaxNum, most} {
			wantAct(t, g, act{kind: above, epoch: epoch}, answer{guard: g})
		}
	}
}

// TestR1NoCallPanics: at all numbers at the edges of their types, of guards that may not be as of those that may. A tick of the greatest number ends, too.
func TestR1NoCallPanics(t *testing.T) {
	numbers := []int64{least, least + 1, -1, 0, 1, api.MaxNum, api.MaxNum + 1, most - 1, most}
	for _, g := range append(spoilt(), fine()...) {
		for _, n := range numbers {
			for _, wild := range []api.Guard{g, at(g, n), serial(g, n), but(g, func(g *api.Guard) { g.Epoch = n }), but(g, func(g *api.Guard) { g.Until = n }), but(g, func(g *api.Guard) { g.Asked = n }), but(g, func(g *api.Guard) { g.Kind = int(n) })} {
				for _, a := range acts(wild) {
					checkAct(t, wild, a)
				}
				checkGuard(t, wild)
			}
		}
	}
}

// TestR2Errors: ErrAsked comes ahead of ErrFull; with an error, and with a no, the guard is as it was, all else is zero.
func TestR2Errors(t *testing.T) {
	for _, g := range sound() {
		for _, a := range acts(g) {
			x := do(g, a)
			fails := a.kind == ask && x.err != api.OK || (a.kind == granted || a.kind == refused) && !x.is
			if fails && x != (answer{guard: g, err: x.err}) {
				t.Fatalf("of %+v: %+v answers %+v", g, a, x)
			}
		}
		waits := g.Kind != 0 && g.Clock-g.Asked < 4
		want := api.OK
		switch {
		case waits:
			want = api.ErrAsked
		case g.Serial == api.MaxNum:
			want = api.ErrFull
		}
		if x := do(g, act{kind: ask}); x.err != want {
			t.Fatalf("Ask(%+v): %d; want %d", g, x.err, want)
		}
	}
}

// TestR4NoLists: no call takes or answers a list, so that there is none that could be nil or empty.
func TestR4NoLists(t *testing.T) {
	var look func(x reflect.Type)
	look = func(x reflect.Type) {
		switch x.Kind() {
		case reflect.Struct:
			for n := range x.NumField() {
				look(x.Field(n).Type)
			}
		case reflect.Int, reflect.Int64, reflect.Bool:
		default:
			t.Errorf("a call takes, or answers, a %v", x)
		}
	}
	for _, call := range []any{guard.New, guard.Check, guard.Tick, guard.Believes, guard.Left, guard.Due, guard.Ask, guard.Granted, guard.Refused, guard.Yield, guard.Above} {
		x := reflect.TypeOf(call)
		for n := range x.NumIn() {
			look(x.In(n))
		}
		for n := range x.NumOut() {
			look(x.Out(n))
		}
	}
}

// TestR5UnmadeGuard: a guard that no call made is New's.
func TestR5UnmadeGuard(t *testing.T) {
	var g api.Guard
	if g != guard.New() {
		t.Errorf("New() = %+v", guard.New())
	}
	wantCheck(t, g, api.OK)
	wantTold(t, g, false, 0, true)
	wantAct(t, g, act{kind: tick, n: 5}, answer{guard: api.Guard{Clock: 5}})
	wantAct(t, g, act{kind: ask}, answer{guard: api.Guard{Serial: 1, Kind: api.GdAcquire}, serial: 1, kind: api.GdAcquire})
	wantNo(t, g, act{kind: granted, serial: 0, epoch: 1})
	wantNo(t, g, act{kind: refused})
	wantAct(t, g, act{kind: yield}, answer{})
	wantAct(t, g, act{kind: above, epoch: 1}, answer{})
}

// TestR6SameAnswers: a call leaves nothing behind that another one could see.
func TestR6SameAnswers(t *testing.T) {
	for _, g := range fine() {
		for _, a := range acts(g) {
			first := do(g, a)
			guard.Ask(guard.Tick(guard.New(), 3))
			guard.Granted(acquires(), 4, 9)
			if again := do(g, a); again != first {
				t.Fatalf("of %+v: %+v answers %+v, and then %+v", g, a, first, again)
			}
		}
	}
}
