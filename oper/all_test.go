package oper_test

import (
	"math/rand"
	"slices"
	"testing"

	"pontoon/api"
	"pontoon/oper"
)

func TestP74AllOfNone(t *testing.T) {
	for _, o := range append(opsThatMayBe(), api.Op{}, api.Op{Kind: -1}) {
		for _, s := range states() {
			for _, l := range [][]api.Record{nil, {}} {
				if got, out := oper.All(o, s, l...); got.Turn != s.Turn || !slices.Equal(got.Keys, s.Keys) || len(out) != 0 {
					t.Errorf("All(%v, %v) = %v, %v", o, s, got, out)
				}
			}
		}
	}
}

func TestP74AllOfMany(t *testing.T) {
	l := []api.Record{rec(2, 5), rec(1, -9), rec(2, 3), rec(-1, 4), rec(1, 1), rec(2, 8)}
	for _, x := range []struct {
		o    api.Op
		keys []api.KeyState
		out  []api.Put
	}{
		{api.Op{Kind: api.OpSource}, nil, []api.Put{put(0, 2, 5), put(0, 1, -9), put(0, 2, 3), put(0, -1, 4), put(0, 1, 1), put(0, 2, 8)}},
		{api.Op{Kind: api.OpMap, Fn: api.FnNeg}, nil, []api.Put{put(0, 2, -5), put(0, 1, 9), put(0, 2, -3), put(0, -1, -4), put(0, 1, -1), put(0, 2, -8)}},
		{api.Op{Kind: api.OpFilter, Fn: api.FnOdd}, nil, []api.Put{put(0, 2, 5), put(0, 1, -9), put(0, 2, 3), put(0, 1, 1)}},
		{api.Op{Kind: api.OpKey, Fn: api.FnVal, Arg: 2}, nil, []api.Put{put(0, 1, 5), put(0, 1, -9), put(0, 1, 3), put(0, 0, 4), put(0, 1, 1), put(0, 0, 8)}},
		{api.Op{Kind: api.OpRoute, Arg: 3}, nil, []api.Put{put(2, 2, 5), put(1, 1, -9), put(2, 2, 3), put(2, -1, 4), put(1, 1, 1), put(2, 2, 8)}},
		{api.Op{Kind: api.OpSink}, nil, nil},
		{api.Op{Kind: api.OpFold, Fn: api.FnMax}, []api.KeyState{ks(-1, 1, 4), ks(1, 2, 1), ks(2, 3, 8)},
			[]api.Put{put(0, 2, 5), put(0, 1, -9), put(0, 2, 5), put(0, -1, 4), put(0, 1, 1), put(0, 2, 8)}},
		{api.Op{Kind: api.OpFold, Fn: api.FnCount}, []api.KeyState{ks(-1, 1, 1), ks(1, 2, 2), ks(2, 3, 3)},
			[]api.Put{put(0, 2, 1), put(0, 1, 1), put(0, 2, 2), put(0, -1, 1), put(0, 1, 2), put(0, 2, 3)}},
		{api.Op{Kind: api.OpWindow, Fn: api.FnSum, Arg: 2}, []api.KeyState{ks(-1, 1, 4), ks(2, 1, 8)}, []api.Put{put(0, 2, 8), put(0, 1, -8)}},
		{api.Op{Kind: api.OpWindow, Fn: api.FnMin, Arg: 3}, []api.KeyState{ks(-1, 1, 4), ks(1, 2, -9)}, []api.Put{put(0, 2, 3)}},
		{api.Op{Kind: api.OpWindow, Fn: api.FnLast, Arg: 1}, nil,
			[]api.Put{put(0, 2, 5), put(0, 1, -9), put(0, 2, 3), put(0, -1, 4), put(0, 1, 1), put(0, 2, 8)}},
	} {
		if s, out := oper.All(x.o, api.OpState{}, l...); s.Turn != 0 || !slices.Equal(s.Keys, x.keys) || !slices.Equal(out, x.out) {
			t.Errorf("All(%v) = %v, %v; want %v, %v", x.o, s, out, x.keys, x.out)
		}
	}
}

// TestP74AllWhereNewKeysStand: of keys that do not rise a new one stands where it was put, also when the greater one that it stood ahead of is gone.
func TestP74AllWhereNewKeysStand(t *testing.T) {
	o := api.Op{Kind: api.OpWindow, Fn: api.FnSum, Arg: 2}
	for _, x := range []struct {
		had  []int64
		l    []int64
		want []int64
	}{
		{[]int64{9, 3}, []int64{5}, []int64{5, 9, 3}},
		{[]int64{9, 3}, []int64{5, 9}, []int64{5, 3}},
		{[]int64{9, 3}, []int64{9, 5}, []int64{3, 5}},
		{[]int64{9, 3}, []int64{5, 9, 4}, []int64{4, 5, 3}},
		{[]int64{9, 3}, []int64{5, 9, 7}, []int64{5, 3, 7}},
		{[]int64{9, 3}, []int64{5, 9, 5, 5}, []int64{3, 5}},
		{[]int64{9, 3, 8}, []int64{5, 9, 5, 5}, []int64{3, 5, 8}},
		{[]int64{9, 3, 8}, []int64{5, 9, 6}, []int64{5, 3, 6, 8}},
		{[]int64{9, 3, 8}, []int64{5, 9, 5, 4}, []int64{3, 4, 8}},
		{[]int64{9, 3, 9}, []int64{5, 9, 6, 9}, []int64{5, 3, 6}},
		{[]int64{9, 3, 9}, []int64{9, 9, 9}, []int64{3, 9}},
		{[]int64{9, 8, 7}, []int64{6, 9, 10, 8, 7}, []int64{6, 10}},
		{[]int64{9, 8, 7}, []int64{9, 9, 8, 8}, []int64{7, 8, 9}},
		{[]int64{7, 7}, []int64{7, 6, 8}, []int64{6, 7, 8}},
		{[]int64{5, 3, 7}, []int64{5, 4, 7, 6, 3}, []int64{4, 6}},
	} {
		var s, want api.OpState
		for _, key := range x.had {
			s.Keys = append(s.Keys, ks(key, 1, 5))
		}
		for _, key := range x.want {
			want.Keys = append(want.Keys, ks(key, 1, 5))
		}
		var l []api.Record
		now := s
		for _, key := range x.l {
			l = append(l, rec(key, 5))
			now, _ = oper.Step(o, now, rec(key, 5))
		}
		got, _ := oper.All(o, s, l...)
		if !slices.Equal(got.Keys, want.Keys) || !slices.Equal(now.Keys, want.Keys) {
			t.Errorf("of %v behind %v: %v by All, %v by Steps; want %v", x.had, x.l, got.Keys, now.Keys, x.want)
		}
	}
}

func TestP76OneByOne(t *testing.T) {
	r := rand.New(rand.NewSource(4))
	for range 20000 {
		keys := 1 + r.Intn(8)
		o, s, l := anyOp(r), anyState(r, keys), anyRecords(r, keys)
		whole, out := oper.All(o, s, l...)
		at := r.Intn(len(l) + 1)
		half, first := oper.All(o, s, l[:at]...)
		end, then := oper.All(o, half, l[at:]...)
		if !oper.Same(whole, end) || !slices.Equal(out, slices.Concat(first, then)) {
			t.Fatalf("All(%v, %v, %v) = %v, %v; in two parts, from %d on: %v, %v, %v", o, s, l, whole, out, at, end, first, then)
		}
	}
}

func TestP77KeysApart(t *testing.T) {
	r := rand.New(rand.NewSource(5))
	for range 10000 {
		keys := 1 + r.Intn(8)
		o := api.Op{Kind: api.OpFold + r.Intn(2), Fn: r.Intn(7), Arg: int64(r.Intn(5))}
		s, l := anyState(r, keys), anyRecords(r, keys)
		now, out := oper.All(o, s, l...)
		for _, x := range l {
			other := func(k api.KeyState) bool { return k.Key != x.Key }
			otherPut := func(p api.Put) bool { return p.Record.Key != x.Key }
			alone := slices.DeleteFunc(slices.Clone(l), func(y api.Record) bool { return y.Key != x.Key })
			keptAlone := api.OpState{Keys: slices.DeleteFunc(slices.Clone(s.Keys), other), Turn: s.Turn}
			want, wantOut := oper.All(o, keptAlone, alone...)
			kept := slices.DeleteFunc(slices.Clone(now.Keys), other)
			told := slices.DeleteFunc(slices.Clone(out), otherPut)
			if !slices.Equal(kept, want.Keys) || !slices.Equal(told, wantOut) {
				t.Fatalf("%v, %v, %v: of the key %d %v, %v; alone %v, %v", o, s, l, x.Key, kept, told, want.Keys, wantOut)
			}
		}
	}
}

// TestR3All: neither the records nor the state is written to or kept.
func TestR3All(t *testing.T) {
	l := []api.Record{rec(9, 1), rec(2, 2), rec(4, 3), rec(2, 4), rec(3, 5), rec(9, 6), rec(1, 7)}
	for _, o := range append(opsThatMayBe(), api.Op{}, api.Op{Kind: api.OpWindow, Fn: 1}) {
		for size := range 4 {
			memory := []api.KeyState{ks(2, 1, 1), ks(4, 1, 2), ks(3, 1, 3), ks(77, 7, 7), ks(78, 7, 7), ks(79, 7, 7)}
			before, records := slices.Clone(memory), slices.Clone(l)
			s := api.OpState{Keys: memory[:size]}
			a, out := oper.All(o, s, records[:5]...)
			want, wantOut := slices.Clone(a.Keys), slices.Clone(out)
			b, more := oper.All(o, s, records[:5]...)
			scribble(b.Keys)
			clear(more[:cap(more)])
			if !slices.Equal(memory, before) || !slices.Equal(records, l) {
				t.Fatalf("All of %v wrote to what it was handed: %v, %v", o, memory, records)
			}
			scribble(memory)
			clear(records)
			if !slices.Equal(a.Keys, want) || !slices.Equal(out, wantOut) {
				t.Fatalf("All of %v: what was answered changed to %v, %v", o, a, out)
			}
		}
	}
}

// many is how many records the tests of the bound take: with the square of it in steps they would not end.
const many = 1 << 20

func fallingRecords(times int) []api.Record {
	var l []api.Record
	for i := range many {
		for n := range times {
			l = append(l, rec(int64(many-i), int64(n)))
		}
	}
	return l
}

func TestBoundFallingKeys(t *testing.T) {
	s, out := oper.All(api.Op{Kind: api.OpFold, Fn: api.FnSum}, api.OpState{}, fallingRecords(1)...)
	if len(s.Keys) != many || s.Keys[0] != ks(1, 1, 0) || s.Keys[many-1] != ks(many, 1, 0) || len(out) != many || out[0] != put(0, many, 0) {
		t.Errorf("%d keys, %d out", len(s.Keys), len(out))
	}
	w := api.Op{Kind: api.OpWindow, Fn: api.FnCount, Arg: 2}
	s, out = oper.All(w, s, fallingRecords(1)...)
	if len(s.Keys) != 0 || len(out) != many {
		t.Errorf("%d keys, %d out", len(s.Keys), len(out))
	}
	s, out = oper.All(w, s, fallingRecords(3)...)
	if len(s.Keys) != many || s.Keys[0] != ks(1, 1, 1) || len(out) != many || out[0] != put(0, many, 2) {
		t.Errorf("%d keys, %d out", len(s.Keys), len(out))
	}
}

// TestBoundKeysThatDoNotRise: falling keys that a window takes away one by one, and brings again between those that are left.
func TestBoundKeysThatDoNotRise(t *testing.T) {
	var s api.OpState
	for i := range many {
		s.Keys = append(s.Keys, ks(int64(2*(many-i)), 1, 1))
	}
	var l []api.Record
	for _, k := range s.Keys {
		l = append(l, rec(k.Key, 1), rec(k.Key-1, 1))
	}
	now, out := oper.All(api.Op{Kind: api.OpWindow, Fn: api.FnSum, Arg: 2}, s, l...)
	if len(now.Keys) != many || len(out) != many || out[0] != put(0, 2*many, 2) {
		t.Fatalf("%d keys, %d out", len(now.Keys), len(out))
	}
	// The first one found all that was left lesser than it; each one behind it found it as the first greater one.
	for i, k := range now.Keys {
		if k != ks(int64(2*i+1), 1, 1) {
			t.Fatalf("at %d stands %v", i, k)
		}
	}
}

// TestBoundMixedKeys: keys in no order, each taken away and brought again; all that is new rises.
func TestBoundMixedKeys(t *testing.T) {
	var s api.OpState
	var l []api.Record
	for i := range int64(many) {
		s.Keys = append(s.Keys, ks(i*7919%many, 1, 5))
		l = append(l, rec(i*104729%many, 6), rec(i*1299709%many, 6))
	}
	now, out := oper.All(api.Op{Kind: api.OpWindow, Fn: api.FnMin, Arg: 2}, s, l...)
	if len(now.Keys) != many || len(out) != many {
		t.Fatalf("%d keys, %d out", len(now.Keys), len(out))
	}
	for i, k := range now.Keys {
		if k != ks(int64(i), 1, 6) {
			t.Fatalf("at %d stands %v", i, k)
		}
	}
}

func TestBoundOneKey(t *testing.T) {
	l := make([]api.Record, many)
	s := keep(ks(0, 1, 5))
	for i := 1; i < 100; i++ {
		s.Keys = append(s.Keys, s.Keys[0])
	}
	now, out := oper.All(api.Op{Kind: api.OpWindow, Fn: api.FnLast, Arg: 2}, s, l...)
	if len(now.Keys) != 0 || len(out) != 100+(many-100)/2 {
		t.Errorf("%v, %d out", now, len(out))
	}
	for _, o := range []api.Op{{Kind: api.OpMap, Fn: api.FnAdd, Arg: 1}, {Kind: api.OpRoute, Arg: 4}, {Kind: api.OpUnion}} {
		if _, out := oper.All(o, api.OpState{}, l...); len(out) != many {
			t.Errorf("%v: %d out", o, len(out))
		}
	}
}
