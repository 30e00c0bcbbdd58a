package oper_test

import (
	"slices"
	"testing"

	"pontoon/api"
	"pontoon/graph"
	"pontoon/oper"
)

func wantStep(t *testing.T, o api.Op, s api.OpState, r api.Record, want api.OpState, out ...api.Put) {
	t.Helper()
	got, puts := oper.Step(o, s, r)
	if got.Turn != want.Turn || !slices.Equal(got.Keys, want.Keys) || !slices.Equal(puts, out) {
		t.Errorf("Step(%v, %v, %v) = %v, %v; want %v, %v", o, s, r, got, puts, want, out)
	}
	// All of one record is no other.
	got, puts = oper.All(o, s, r)
	if got.Turn != want.Turn || !slices.Equal(got.Keys, want.Keys) || !slices.Equal(puts, out) {
		t.Errorf("All(%v, %v, %v) = %v, %v; want %v, %v", o, s, r, got, puts, want, out)
	}
}

// states is what may be handed to an operator, whether it keeps such or not.
func states() []api.OpState {
	return []api.OpState{
		{}, {Turn: 3}, {Turn: -1}, {Keys: []api.KeyState{}},
		keep(ks(1, 1, 5)),
		{Keys: []api.KeyState{ks(7, 1, 5), ks(7, 2, 6), ks(-3, 0, 4)}, Turn: 2},
	}
}

func TestP73KeepsNothing(t *testing.T) {
	for _, s := range states() {
		for _, x := range []struct {
			o   api.Op
			r   api.Record
			out []api.Put
		}{
			{api.Op{Kind: api.OpMap, Fn: api.FnAdd, Arg: 1}, rec(7, most), []api.Put{put(0, 7, least)}},
			{api.Op{Kind: api.OpMap, Fn: api.FnMul, Arg: 3}, rec(7, -2), []api.Put{put(0, 7, -6)}},
			{api.Op{Kind: api.OpMap, Fn: api.FnNeg}, rec(7, 2), []api.Put{put(0, 7, -2)}},
			{api.Op{Kind: api.OpMap, Fn: api.FnXor, Arg: 3}, rec(7, 2), []api.Put{put(0, 7, 1)}},
			{api.Op{Kind: api.OpMap, Fn: 5, Arg: 3}, rec(7, 2), []api.Put{put(0, 7, 2)}},
			{api.Op{Kind: api.OpKey, Fn: api.FnKeep}, rec(7, 2), []api.Put{put(0, 7, 2)}},
			{api.Op{Kind: api.OpKey, Fn: api.FnMod, Arg: 4}, rec(-7, 2), []api.Put{put(0, 1, 2)}},
			{api.Op{Kind: api.OpKey, Fn: api.FnVal, Arg: 4}, rec(7, -2), []api.Put{put(0, 2, -2)}},
			{api.Op{Kind: api.OpKey, Fn: api.FnOne, Arg: 4}, rec(7, 2), []api.Put{put(0, 4, 2)}},
			{api.Op{Kind: api.OpFilter, Fn: api.FnLess, Arg: 4}, rec(7, 3), []api.Put{put(0, 7, 3)}},
			{api.Op{Kind: api.OpFilter, Fn: api.FnLess, Arg: 4}, rec(7, 4), nil},
			{api.Op{Kind: api.OpFilter, Fn: api.FnEqual, Arg: 4}, rec(7, 4), []api.Put{put(0, 7, 4)}},
			{api.Op{Kind: api.OpFilter, Fn: api.FnEqual, Arg: 4}, rec(4, 7), nil},
			{api.Op{Kind: api.OpFilter, Fn: api.FnOdd}, rec(7, -3), []api.Put{put(0, 7, -3)}},
			{api.Op{Kind: api.OpFilter, Fn: api.FnOdd}, rec(7, -4), nil},
			{api.Op{Kind: api.OpFilter, Fn: api.FnMask, Arg: 4}, rec(7, 6), []api.Put{put(0, 7, 6)}},
			{api.Op{Kind: api.OpFilter, Fn: api.FnMask, Arg: 4}, rec(7, 3), nil},
			{api.Op{Kind: api.OpFilter, Fn: 5, Arg: 4}, rec(7, 4), nil},
			{api.Op{Kind: api.OpSource, Part: 1}, rec(7, 2), []api.Put{put(0, 7, 2)}},
			{api.Op{Kind: api.OpSource, Fn: api.FnNeg, Arg: 4}, rec(7, 2), []api.Put{put(0, 7, 2)}},
			{api.Op{Kind: api.OpUnion}, rec(7, 2), []api.Put{put(0, 7, 2)}},
			{api.Op{Kind: api.OpUnion, In: make([]api.Edge, 4)}, rec(7, 2), []api.Put{put(0, 7, 2)}},
			{api.Op{Kind: api.OpSink}, rec(7, 2), nil},
			{api.Op{Kind: api.OpSink, Fn: api.FnSum, Arg: 1}, rec(7, 2), nil},
		} {
			wantStep(t, x.o, s, x.r, s, x.out...)
		}
		for _, kind := range noKinds() {
			for fn := range 6 {
				wantStep(t, api.Op{Kind: kind, Fn: fn, Arg: 1}, s, rec(7, 2), s)
			}
		}
	}
}

func TestP73Route(t *testing.T) {
	for _, s := range states() {
		for _, x := range rests() {
			r := rec(x[0], 5)
			wantStep(t, api.Op{Kind: api.OpRoute, Arg: x[1]}, s, r, s, api.Put{Port: int(x[2]), Record: r})
		}
	}
	for arg := int64(2); arg <= api.MaxPorts; arg++ {
		for key := int64(-9); key <= 9; key++ {
			port := (key + 12*arg) % arg
			wantStep(t, api.Op{Kind: api.OpRoute, Arg: arg}, api.OpState{}, rec(key, key), api.OpState{}, put(int(port), key, key))
		}
	}
}

func TestP73FoldByFn(t *testing.T) {
	for _, x := range []struct {
		fn               int
		first, then, now int64
	}{
		{api.FnSum, 8, 5, 13},
		{api.FnCount, 1, 5, 6},
		{api.FnMax, 8, 5, 8},
		{api.FnMin, 8, 5, 5},
		{api.FnLast, 8, 5, 5},
		{0, 8, 5, 5},
		{6, 8, 5, 5},
		{-1, 8, 5, 5},
	} {
		o := api.Op{Kind: api.OpFold, Fn: x.fn}
		wantStep(t, o, api.OpState{}, rec(3, 8), keep(ks(3, 1, x.first)), put(0, 3, x.first))
		acc := x.first
		if x.fn == api.FnCount {
			acc = 5
		}
		wantStep(t, o, keep(ks(3, 4, acc)), rec(3, 5), keep(ks(3, 5, x.now)), put(0, 3, x.now))
	}
	// The Arg of an OpFold has no say.
	for _, arg := range []int64{-1, 0, 1, 2, least, most} {
		o := api.Op{Kind: api.OpFold, Fn: api.FnSum, Arg: arg}
		wantStep(t, o, keep(ks(3, 4, 8)), rec(3, 5), keep(ks(3, 5, 13)), put(0, 3, 13))
	}
}

func TestP73FoldWraps(t *testing.T) {
	sum := api.Op{Kind: api.OpFold, Fn: api.FnSum}
	wantStep(t, sum, keep(ks(3, 4, most)), rec(3, 1), keep(ks(3, 5, least)), put(0, 3, least))
	wantStep(t, sum, keep(ks(3, 4, least)), rec(3, -1), keep(ks(3, 5, most)), put(0, 3, most))
	count := api.Op{Kind: api.OpFold, Fn: api.FnCount}
	wantStep(t, count, keep(ks(3, 4, most)), rec(3, 1), keep(ks(3, 5, least)), put(0, 3, least))
}

// TestP73WhereAKeyStands: of an OpFold, and of an OpWindow that is far from full.
func TestP73WhereAKeyStands(t *testing.T) {
	a, b, c := ks(-2, 1, 10), ks(4, 2, 20), ks(9, 3, 30)
	for _, x := range []struct {
		had  []api.KeyState
		key  int64
		want []api.KeyState
		now  int64
	}{
		{nil, 5, []api.KeyState{ks(5, 1, 7)}, 7},
		{[]api.KeyState{}, least, []api.KeyState{ks(least, 1, 7)}, 7},
		{[]api.KeyState{a, b, c}, -3, []api.KeyState{ks(-3, 1, 7), a, b, c}, 7},
		{[]api.KeyState{a, b, c}, least, []api.KeyState{ks(least, 1, 7), a, b, c}, 7},
		{[]api.KeyState{a, b, c}, -1, []api.KeyState{a, ks(-1, 1, 7), b, c}, 7},
		{[]api.KeyState{a, b, c}, 5, []api.KeyState{a, b, ks(5, 1, 7), c}, 7},
		{[]api.KeyState{a, b, c}, 8, []api.KeyState{a, b, ks(8, 1, 7), c}, 7},
		{[]api.KeyState{a, b, c}, 10, []api.KeyState{a, b, c, ks(10, 1, 7)}, 7},
		{[]api.KeyState{a, b, c}, most, []api.KeyState{a, b, c, ks(most, 1, 7)}, 7},
		{[]api.KeyState{a, b, c}, -2, []api.KeyState{ks(-2, 2, 17), b, c}, 17},
		{[]api.KeyState{a, b, c}, 4, []api.KeyState{a, ks(4, 3, 27), c}, 27},
		{[]api.KeyState{a, b, c}, 9, []api.KeyState{a, b, ks(9, 4, 37)}, 37},
		// Of keys that do not rise: the first of that key, wherever it stands; else ahead of the first greater one.
		{[]api.KeyState{c, b, a}, 4, []api.KeyState{c, ks(4, 3, 27), a}, 27},
		{[]api.KeyState{c, b, a}, -2, []api.KeyState{c, b, ks(-2, 2, 17)}, 17},
		{[]api.KeyState{c, b, a}, 5, []api.KeyState{ks(5, 1, 7), c, b, a}, 7},
		{[]api.KeyState{c, b, a}, 10, []api.KeyState{c, b, a, ks(10, 1, 7)}, 7},
		{[]api.KeyState{b, a, c, a}, 5, []api.KeyState{b, a, ks(5, 1, 7), c, a}, 7},
		{[]api.KeyState{b, a, c, a}, 0, []api.KeyState{ks(0, 1, 7), b, a, c, a}, 7},
		{[]api.KeyState{b, a, c, a}, -2, []api.KeyState{b, ks(-2, 2, 17), c, a}, 17},
		{[]api.KeyState{b, b, ks(4, 9, 9)}, 4, []api.KeyState{ks(4, 3, 27), b, ks(4, 9, 9)}, 27},
		{[]api.KeyState{a, b, b, c}, 4, []api.KeyState{a, ks(4, 3, 27), b, c}, 27},
		{[]api.KeyState{c, c, b}, 8, []api.KeyState{ks(8, 1, 7), c, c, b}, 7},
	} {
		for _, turn := range []int{0, 3, -1} {
			s, want := api.OpState{Keys: x.had, Turn: turn}, api.OpState{Keys: x.want, Turn: turn}
			wantStep(t, api.Op{Kind: api.OpFold, Fn: api.FnSum}, s, rec(x.key, 7), want, put(0, x.key, x.now))
			wantStep(t, api.Op{Kind: api.OpWindow, Fn: api.FnSum, Arg: 64}, s, rec(x.key, 7), want)
		}
	}
}

func TestP73TheSameKeyTwice(t *testing.T) {
	o := api.Op{Kind: api.OpFold, Fn: api.FnSum}
	s, out := oper.All(o, api.OpState{}, rec(4, 5), rec(2, 1), rec(4, 6))
	if !oper.Same(s, keep(ks(2, 1, 1), ks(4, 2, 11))) || !slices.Equal(out, []api.Put{put(0, 4, 5), put(0, 2, 1), put(0, 4, 11)}) {
		t.Errorf("%v, %v", s, out)
	}
}

// TestP73CountsOfAFold: what is above MaxNum comes down to it; what is below 1 counts as none came, and still rises by one.
func TestP73CountsOfAFold(t *testing.T) {
	o := api.Op{Kind: api.OpFold, Fn: api.FnSum}
	for _, x := range [][3]int64{
		{1, 2, 12},
		{api.MaxNum - 2, api.MaxNum - 1, 12},
		{api.MaxNum - 1, api.MaxNum, 12},
		{api.MaxNum, api.MaxNum, 12},
		{api.MaxNum + 1, api.MaxNum, 12},
		{most, api.MaxNum, 12},
		{0, 1, 7},
		{-1, 0, 7},
		{-64, -63, 7},
		{least, least + 1, 7},
	} {
		wantStep(t, o, keep(ks(3, x[0], 5)), rec(3, 7), keep(ks(3, x[1], x[2])), put(0, 3, x[2]))
	}
}

func TestP73Window(t *testing.T) {
	a, c := ks(1, 1, 10), ks(9, 1, 30)
	for _, x := range []struct {
		arg   int64
		count int64
		want  []api.KeyState
		out   []api.Put
	}{
		{3, 1, []api.KeyState{a, ks(4, 2, 12), c}, nil},
		{3, 2, []api.KeyState{a, c}, []api.Put{put(0, 4, 12)}},
		{2, 1, []api.KeyState{a, c}, []api.Put{put(0, 4, 12)}},
		{64, 62, []api.KeyState{a, ks(4, 63, 12), c}, nil},
		{64, 63, []api.KeyState{a, c}, []api.Put{put(0, 4, 12)}},
		// A Count that is already Arg, or more.
		{3, 3, []api.KeyState{a, c}, []api.Put{put(0, 4, 12)}},
		{3, 4, []api.KeyState{a, c}, []api.Put{put(0, 4, 12)}},
		{3, most, []api.KeyState{a, c}, []api.Put{put(0, 4, 12)}},
		{1, 1, []api.KeyState{a, c}, []api.Put{put(0, 4, 12)}},
		{0, 1, []api.KeyState{a, c}, []api.Put{put(0, 4, 12)}},
		{-5, 1, []api.KeyState{a, c}, []api.Put{put(0, 4, 12)}},
		{least, 1, []api.KeyState{a, c}, []api.Put{put(0, 4, 12)}},
		// Counts below 1 count as none came.
		{1, 0, []api.KeyState{a, c}, []api.Put{put(0, 4, 7)}},
		{2, 0, []api.KeyState{a, ks(4, 1, 7), c}, nil},
		{1, -1, []api.KeyState{a, ks(4, 0, 7), c}, nil},
		{0, -1, []api.KeyState{a, c}, []api.Put{put(0, 4, 7)}},
		{-5, -7, []api.KeyState{a, ks(4, -6, 7), c}, nil},
		{-5, -6, []api.KeyState{a, c}, []api.Put{put(0, 4, 7)}},
		// A window that no Count reaches.
		{api.MaxNum, api.MaxNum - 1, []api.KeyState{a, c}, []api.Put{put(0, 4, 12)}},
		{api.MaxNum + 1, api.MaxNum - 1, []api.KeyState{a, ks(4, api.MaxNum, 12), c}, nil},
		{api.MaxNum + 1, api.MaxNum, []api.KeyState{a, ks(4, api.MaxNum, 12), c}, nil},
		{most, most, []api.KeyState{a, ks(4, api.MaxNum, 12), c}, nil},
	} {
		o := api.Op{Kind: api.OpWindow, Fn: api.FnSum, Arg: x.arg}
		wantStep(t, o, keep(a, ks(4, x.count, 5), c), rec(4, 7), keep(x.want...), x.out...)
	}
}

func TestP73WindowOfANewKey(t *testing.T) {
	a, c := ks(1, 1, 10), ks(9, 1, 30)
	for _, x := range []struct {
		fn  int
		acc int64
	}{{api.FnSum, 7}, {api.FnCount, 1}, {api.FnMax, 7}, {api.FnMin, 7}, {api.FnLast, 7}, {0, 7}, {6, 7}} {
		for _, arg := range []int64{1, 0, -1, least} {
			o := api.Op{Kind: api.OpWindow, Fn: x.fn, Arg: arg}
			wantStep(t, o, api.OpState{}, rec(4, 7), api.OpState{}, put(0, 4, x.acc))
			wantStep(t, o, keep(a, c), rec(4, 7), keep(a, c), put(0, 4, x.acc))
		}
		for _, arg := range []int64{2, 3, 64, 65, most} {
			o := api.Op{Kind: api.OpWindow, Fn: x.fn, Arg: arg}
			wantStep(t, o, api.OpState{}, rec(4, 7), keep(ks(4, 1, x.acc)))
			wantStep(t, o, keep(a, c), rec(4, 7), keep(a, ks(4, 1, x.acc), c))
		}
	}
}

// TestP73WindowTakesTheFirst: of a key that stands twice the first one goes alone.
func TestP73WindowTakesTheFirst(t *testing.T) {
	o := api.Op{Kind: api.OpWindow, Fn: api.FnSum, Arg: 2}
	s := keep(ks(9, 1, 1), ks(4, 1, 5), ks(3, 1, 1), ks(4, 1, 6))
	wantStep(t, o, s, rec(4, 7), keep(ks(9, 1, 1), ks(3, 1, 1), ks(4, 1, 6)), put(0, 4, 12))
	now, out := oper.All(o, s, rec(4, 7), rec(4, 7), rec(4, 7))
	if !oper.Same(now, keep(ks(4, 1, 7), ks(9, 1, 1), ks(3, 1, 1))) || !slices.Equal(out, []api.Put{put(0, 4, 12), put(0, 4, 13)}) {
		t.Errorf("%v, %v", now, out)
	}
}

func TestExamples(t *testing.T) {
	s, out := oper.All(api.Op{Kind: api.OpWindow, Fn: api.FnSum, Arg: 2}, api.OpState{}, rec(1, 5), rec(2, 9), rec(1, 6))
	if !slices.Equal(out, []api.Put{put(0, 1, 11)}) || !oper.Same(s, keep(ks(2, 1, 9))) {
		t.Errorf("%v, %v", s, out)
	}
	for _, val := range []int64{0, 5, -1} {
		wantStep(t, api.Op{Kind: api.OpRoute, Arg: 2}, api.OpState{}, rec(-1, val), api.OpState{}, put(1, -1, val))
	}
}

// opsThatMayBe is operators of each Kind and each Fn, as graph.Check takes them.
func opsThatMayBe() []api.Op {
	l := []api.Op{
		{Kind: api.OpSource}, {Kind: api.OpSource, Part: 3}, {Kind: api.OpSink},
		{Kind: api.OpKey, Fn: api.FnKeep}, {Kind: api.OpKey, Fn: api.FnMod, Arg: 3}, {Kind: api.OpKey, Fn: api.FnVal, Arg: 1},
		{Kind: api.OpKey, Fn: api.FnVal, Arg: most}, {Kind: api.OpKey, Fn: api.FnOne, Arg: -4},
	}
	for fn := 1; fn <= 4; fn++ {
		l = append(l, api.Op{Kind: api.OpMap, Fn: fn}, api.Op{Kind: api.OpFilter, Fn: fn})
	}
	for fn := 1; fn <= 5; fn++ {
		l = append(l, api.Op{Kind: api.OpFold, Fn: fn})
		for _, arg := range []int64{1, 2, 3, api.MaxCount} {
			l = append(l, api.Op{Kind: api.OpWindow, Fn: fn, Arg: arg})
		}
	}
	for n := 2; n <= api.MaxPorts; n++ {
		l = append(l, api.Op{Kind: api.OpRoute, Arg: int64(n)}, api.Op{Kind: api.OpUnion, In: make([]api.Edge, n)})
	}
	return l
}

// statesThatMayBe is what o may keep, by Check.
func statesThatMayBe(t *testing.T, o api.Op) []api.OpState {
	l := []api.OpState{{}}
	switch o.Kind {
	case api.OpUnion:
		for turn := range o.In {
			l = append(l, api.OpState{Turn: turn})
		}
	case api.OpFold:
		l = append(l, keep(ks(0, 1, 5)), keep(ks(-2, api.MaxNum-1, 5), ks(3, api.MaxNum, 6)), keep(ks(least, 1, 1), ks(1, 9, 2), ks(most, 1, 3)))
	case api.OpWindow:
		if o.Arg > 1 {
			l = append(l, keep(ks(0, o.Arg-1, 5)), keep(ks(-2, 1, 5), ks(3, o.Arg-1, 6)), keep(ks(least, 1, 1), ks(1, o.Arg-1, 2), ks(most, 1, 3)))
		}
	}
	for _, s := range l {
		if e := oper.Check(o, s); e != api.OK {
			t.Fatalf("Check(%v, %v) = %d", o, s, e)
		}
	}
	return l
}

func TestP75ItStaysRight(t *testing.T) {
	keys := []int64{least, -3, -2, -1, 0, 1, 2, 3, 4, most}
	for _, o := range opsThatMayBe() {
		for _, s := range statesThatMayBe(t, o) {
			now := s
			var l []api.Record
			for i := range 3 * len(keys) {
				r := rec(keys[(i*i+i/2)%len(keys)], int64(i)-9)
				l = append(l, r)
				next, out := oper.Step(o, now, r)
				if e := oper.Check(o, next); e != api.OK {
					t.Fatalf("Check of Step(%v, %v, %v) = %v: %d", o, now, r, next, e)
				}
				for _, p := range out {
					if p.Port < 0 || p.Port >= graph.Ports(o) {
						t.Fatalf("Step(%v, %v, %v) goes out of port %d of %d", o, now, r, p.Port, graph.Ports(o))
					}
				}
				all, _ := oper.All(o, s, l...)
				if e := oper.Check(o, all); e != api.OK {
					t.Fatalf("Check of All(%v, %v, %v) = %v: %d", o, s, l, all, e)
				}
				now = next
			}
		}
	}
}

// TestR3Step: what is handed in stays as it is, also behind its end, and what is answered is nobody's else.
func TestR3Step(t *testing.T) {
	ops := append(opsThatMayBe(), api.Op{}, api.Op{Kind: api.OpWindow, Arg: -1}, api.Op{Kind: api.OpRoute, Arg: 0})
	for _, o := range ops {
		for _, r := range []api.Record{rec(0, 5), rec(2, 5), rec(3, 5), rec(4, 5), rec(6, 5), rec(9, 5)} {
			for size := range 4 {
				memory := []api.KeyState{ks(2, 1, 1), ks(4, 1, 2), ks(6, 1, 3), ks(77, 7, 7), ks(78, 7, 7), ks(79, 7, 7)}
				before := slices.Clone(memory)
				s := api.OpState{Keys: memory[:size], Turn: 1}
				for _, call := range []func() (api.OpState, []api.Put){
					func() (api.OpState, []api.Put) { return oper.Step(o, s, r) },
					func() (api.OpState, []api.Put) { return oper.All(o, s, r) },
					func() (api.OpState, []api.Put) { return oper.All(o, s) },
					func() (api.OpState, []api.Put) { return oper.Clone(s), nil },
				} {
					a, out := call()
					want, wantOut := slices.Clone(a.Keys), slices.Clone(out)
					b, _ := call()
					scribble(b.Keys)
					if !slices.Equal(memory, before) {
						t.Fatalf("%v, %v: %v became %v", o, r, before, memory)
					}
					scribble(memory)
					if !slices.Equal(a.Keys, want) || !slices.Equal(out, wantOut) {
						t.Fatalf("%v, %v: what was answered changed to %v, %v", o, r, a, out)
					}
					copy(memory, before)
				}
			}
		}
	}
}

// scribble writes to each place of a list, and behind its end.
func scribble(l []api.KeyState) {
	l = l[:cap(l)]
	for i := range l {
		l[i] = ks(-99, -99, -99)
	}
}

func TestR4NoKeys(t *testing.T) {
	for _, o := range opsThatMayBe() {
		for _, r := range []api.Record{rec(0, 5), rec(-1, 4)} {
			a, out := oper.Step(o, api.OpState{}, r)
			b, more := oper.Step(o, api.OpState{Keys: []api.KeyState{}}, r)
			if !slices.Equal(a.Keys, b.Keys) || !slices.Equal(out, more) {
				t.Errorf("Step of %v: %v, %v of nil; %v, %v of an empty list", o, a, out, b, more)
			}
			a, out = oper.All(o, api.OpState{}, r, r)
			b, more = oper.All(o, api.OpState{Keys: []api.KeyState{}}, r, r)
			if !slices.Equal(a.Keys, b.Keys) || !slices.Equal(out, more) {
				t.Errorf("All of %v: %v, %v of nil; %v, %v of an empty list", o, a, out, b, more)
			}
		}
		if a, b := oper.Check(o, api.OpState{}), oper.Check(o, api.OpState{Keys: []api.KeyState{}}); a != api.OK || b != api.OK {
			t.Errorf("Check of %v: %d of nil, %d of an empty list", o, a, b)
		}
	}
}
