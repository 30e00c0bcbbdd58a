package oper_test

import (
	"slices"
	"testing"

	"pontoon/api"
	"pontoon/oper"
)

func wantCheck(t *testing.T, o api.Op, s api.OpState, want api.Errno) {
	t.Helper()
	if got := oper.Check(o, s); got != want {
		t.Errorf("Check(%v, %v) = %d; want %d", o, s, got, want)
	}
}

// fits tells what Check is to tell.
func fits(fine bool) api.Errno {
	if fine {
		return api.OK
	}
	return api.ErrState
}

func TestP74TurnOfOthers(t *testing.T) {
	kinds := append(noKinds(), api.OpSource, api.OpMap, api.OpFilter, api.OpKey, api.OpFold, api.OpWindow, api.OpRoute, api.OpSink)
	for _, kind := range kinds {
		for _, inputs := range []int{0, 1, 2, 4} {
			for _, turn := range []int{0, 1, 2, 3, 4, -1, most, least} {
				o := api.Op{Kind: kind, Fn: 1, Arg: 2, In: make([]api.Edge, inputs)}
				wantCheck(t, o, api.OpState{Turn: turn}, fits(turn == 0))
			}
		}
	}
}

func TestP74TurnOfAUnion(t *testing.T) {
	for inputs := range 6 {
		o := api.Op{Kind: api.OpUnion, In: make([]api.Edge, inputs)}
		for _, turn := range []int{0, 1, 2, 3, 4, 5, 6, -1, -2, most, least} {
			wantCheck(t, o, api.OpState{Turn: turn}, fits(turn == 0 || turn > 0 && turn < inputs))
		}
	}
	wantCheck(t, api.Op{Kind: api.OpUnion}, api.OpState{}, api.OK)
	wantCheck(t, api.Op{Kind: api.OpUnion, In: []api.Edge{}}, api.OpState{Turn: 1}, api.ErrState)
}

func TestP74KeysWhereNothingIsKept(t *testing.T) {
	kinds := append(noKinds(), api.OpSource, api.OpMap, api.OpFilter, api.OpKey, api.OpRoute, api.OpUnion, api.OpSink)
	for _, kind := range kinds {
		o := api.Op{Kind: kind, Arg: 2, In: make([]api.Edge, 2)}
		wantCheck(t, o, api.OpState{}, api.OK)
		wantCheck(t, o, api.OpState{Keys: []api.KeyState{}}, api.OK)
		wantCheck(t, o, keep(ks(0, 0, 0)), api.ErrState)
		wantCheck(t, o, keep(ks(1, 1, 5)), api.ErrState)
		wantCheck(t, o, keep(ks(1, 1, 5), ks(2, 1, 5)), api.ErrState)
	}
}

func TestP74Keys(t *testing.T) {
	for _, x := range []struct {
		keys []int64
		fine bool
	}{
		{nil, true},
		{[]int64{0}, true},
		{[]int64{least}, true},
		{[]int64{most}, true},
		{[]int64{1, 2}, true},
		{[]int64{-1, 0, 1}, true},
		{[]int64{least, least + 1, -1, 0, 1, most - 1, most}, true},
		{[]int64{1, 1}, false},
		{[]int64{2, 1}, false},
		{[]int64{0, -1}, false},
		{[]int64{most, least}, false},
		{[]int64{least, least}, false},
		{[]int64{most, most}, false},
		{[]int64{1, 2, 2}, false},
		{[]int64{1, 2, 1}, false},
		{[]int64{1, 3, 2, 4}, false},
		{[]int64{1, 1, 2, 3}, false},
	} {
		var s api.OpState
		for _, key := range x.keys {
			s.Keys = append(s.Keys, ks(key, 1, -key))
		}
		for fn := range 7 {
			wantCheck(t, api.Op{Kind: api.OpFold, Fn: fn}, s, fits(x.fine))
			wantCheck(t, api.Op{Kind: api.OpWindow, Fn: fn, Arg: 2}, s, fits(x.fine))
			wantCheck(t, api.Op{Kind: api.OpWindow, Fn: fn, Arg: 64}, s, fits(x.fine))
		}
		s.Turn = 1
		wantCheck(t, api.Op{Kind: api.OpFold, Fn: 1}, s, api.ErrState)
		wantCheck(t, api.Op{Kind: api.OpWindow, Fn: 1, Arg: 2}, s, api.ErrState)
	}
}

func TestP74Counts(t *testing.T) {
	// The count stands first, between others, and last.
	with := func(count int64) []api.OpState {
		return []api.OpState{
			keep(ks(5, count, 9)), keep(ks(5, count, 9), ks(6, 1, 9)), keep(ks(4, 1, 9), ks(5, count, 9)),
			keep(ks(4, 1, 9), ks(5, count, 9), ks(6, 1, 9)),
		}
	}
	for _, count := range []int64{0, 1, 2, 3, 63, 64, 65, -1, -2, api.MaxNum - 1, api.MaxNum, api.MaxNum + 1, most, least} {
		for _, s := range with(count) {
			for _, arg := range []int64{0, 1, 5, least, most} {
				wantCheck(t, api.Op{Kind: api.OpFold, Fn: 1, Arg: arg}, s, fits(count >= 1 && count <= 1<<53))
			}
			for _, arg := range []int64{2, 3, 4, 64, 65} {
				wantCheck(t, api.Op{Kind: api.OpWindow, Fn: 1, Arg: arg}, s, fits(count >= 1 && count <= arg-1))
			}
			// No Count is from 1 to 0, or to less.
			for _, arg := range []int64{1, 0, -1, -64, least, least + 1} {
				wantCheck(t, api.Op{Kind: api.OpWindow, Fn: 1, Arg: arg}, s, api.ErrState)
			}
		}
	}
	for _, arg := range []int64{1, 0, -1, least} {
		wantCheck(t, api.Op{Kind: api.OpWindow, Fn: 1, Arg: arg}, api.OpState{}, api.OK)
	}
}

func TestP74Same(t *testing.T) {
	all := []api.OpState{
		{}, {Turn: 1}, {Turn: -1}, keep(ks(0, 0, 0)), keep(ks(1, 2, 3)), keep(ks(9, 2, 3)), keep(ks(1, 9, 3)), keep(ks(1, 2, 9)),
		{Keys: []api.KeyState{ks(1, 2, 3)}, Turn: 1},
		keep(ks(1, 2, 3), ks(4, 5, 6)), keep(ks(4, 5, 6), ks(1, 2, 3)), keep(ks(1, 2, 3), ks(4, 5, 9)), keep(ks(1, 2, 3), ks(4, 5, 6), ks(0, 0, 0)),
	}
	for i, a := range all {
		for j, b := range all {
			if got := oper.Same(a, b); got != (i == j) {
				t.Errorf("Same(%v, %v) = %v", a, b, got)
			}
		}
		if !oper.Same(a, api.OpState{Keys: slices.Clone(a.Keys), Turn: a.Turn}) {
			t.Errorf("%v is not like its copy", a)
		}
	}
}

func TestR4Same(t *testing.T) {
	empty := []api.KeyState{}
	room := make([]api.KeyState, 0, 5)
	for _, a := range [][]api.KeyState{nil, empty, room} {
		for _, b := range [][]api.KeyState{nil, empty, room} {
			if !oper.Same(api.OpState{Keys: a}, api.OpState{Keys: b}) || oper.Same(api.OpState{Keys: a}, api.OpState{Keys: b, Turn: 1}) {
				t.Errorf("Same(%v, %v)", a, b)
			}
		}
		if oper.Same(api.OpState{Keys: a}, keep(ks(0, 0, 0))) || oper.Same(keep(ks(0, 0, 0)), api.OpState{Keys: a}) {
			t.Errorf("%v is like a list with a key", a)
		}
		if s := oper.Clone(api.OpState{Keys: a, Turn: 2}); len(s.Keys) != 0 || s.Turn != 2 {
			t.Errorf("Clone = %v", s)
		}
	}
}

func TestP74Clone(t *testing.T) {
	for _, s := range append(states(), keep(ks(3, 1, 1), ks(2, -1, least), ks(2, most, 1))) {
		before := slices.Clone(s.Keys)
		c := oper.Clone(s)
		if c.Turn != s.Turn || !slices.Equal(c.Keys, s.Keys) || !oper.Same(c, s) {
			t.Errorf("Clone of %v = %v", s, c)
		}
		scribble(c.Keys)
		c.Turn = 99
		if !slices.Equal(s.Keys, before) {
			t.Errorf("a Clone that is written to wrote to %v", s)
		}
		d := oper.Clone(s)
		for i := range s.Keys {
			s.Keys[i] = ks(-1, -1, -1)
		}
		if !slices.Equal(d.Keys, before) {
			t.Errorf("what was cloned wrote to %v", d)
		}
	}
}
