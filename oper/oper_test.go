package oper_test

import (
	"testing"

	"pontoon/api"
	"pontoon/oper"
)

// noKinds and noFns are numbers of which there is no Kind, no Fn.
func noKinds() []int { return []int{0, 10, 11, -1, -2, -9, 256 + 2, 1<<32 + 5, most, least} }

func noFns() []int { return []int{0, 6, 7, -1, -2, -4, 256 + 1, 1<<32 + 1, most, least} }

func TestP71ValueOfAMap(t *testing.T) {
	for _, x := range []struct {
		fn             int
		arg, val, want int64
	}{
		{api.FnAdd, 3, 4, 7},
		{api.FnAdd, -3, -4, -7},
		{api.FnAdd, 0, 4, 4},
		{api.FnAdd, 1, most, least},
		{api.FnAdd, -1, least, most},
		{api.FnAdd, most, most, -2},
		{api.FnAdd, least, least, 0},
		{api.FnMul, 3, 4, 12},
		{api.FnMul, -3, 4, -12},
		{api.FnMul, 0, most, 0},
		{api.FnMul, 2, most, -2},
		{api.FnMul, most, most, 1},
		{api.FnMul, least, least, 0},
		{api.FnMul, -1, least, least},
		{api.FnMul, least, -1, least},
		{api.FnMul, 1 << 32, 1 << 31, least},
		{api.FnMul, 1 << 32, 1 << 32, 0},
		{api.FnNeg, 0, 7, -7},
		{api.FnNeg, 9, -7, 7},
		{api.FnNeg, 0, 0, 0},
		{api.FnNeg, 0, most, least + 1},
		{api.FnNeg, 0, least, least},
		{api.FnXor, 6, 3, 5},
		{api.FnXor, -1, 3, -4},
		{api.FnXor, 3, 3, 0},
		{api.FnXor, least, most, -1},
		{api.FnXor, -1, least, most},
	} {
		o := api.Op{Kind: api.OpMap, Fn: x.fn, Arg: x.arg}
		for _, key := range []int64{5, -5, 0, least} {
			if got := oper.Value(o, rec(key, x.val)); got != rec(key, x.want) {
				t.Errorf("Value(%v, %d) = %v; want %d", o, x.val, got, x.want)
			}
		}
	}
}

// rests is what is left of x by arg.
func rests() [][3]int64 {
	return [][3]int64{
		{0, 5, 0}, {4, 5, 4}, {5, 5, 0}, {6, 5, 1},
		{-1, 5, 4}, {-4, 5, 1}, {-5, 5, 0}, {-6, 5, 4},
		{7, 1, 0}, {-7, 1, 0}, {least, 1, 0}, {most, 1, 0},
		{3, 2, 1}, {-3, 2, 1}, {least, 2, 0}, {most, 2, 1}, {least, 3, 1}, {most, 3, 1},
		{most, most, 0}, {most - 1, most, most - 1}, {-1, most, most - 1}, {least, most, most - 1}, {least + 1, most, 0}, {0, most, 0},
		{7, 0, 0}, {-7, 0, 0}, {least, 0, 0},
		{7, -1, 0}, {7, -5, 0}, {-7, -5, 0}, {least, -1, 0}, {7, least, 0}, {least, least, 0}, {most, least, 0},
	}
}

func TestP71ValueOfAKey(t *testing.T) {
	of := func(fn int, arg int64) api.Op { return api.Op{Kind: api.OpKey, Fn: fn, Arg: arg} }
	for _, x := range rests() {
		// The record's other number is another one, so that a mix-up of the two shows.
		other := x[0] ^ 8
		if got := oper.Value(of(api.FnMod, x[1]), rec(x[0], other)); got != rec(x[2], other) {
			t.Errorf("the Key %d by %d: %v; want %d", x[0], x[1], got, x[2])
		}
		if got := oper.Value(of(api.FnVal, x[1]), rec(other, x[0])); got != rec(x[2], x[0]) {
			t.Errorf("the Val %d by %d: %v; want %d", x[0], x[1], got, x[2])
		}
	}
	for _, arg := range []int64{0, 1, 7, -7, least, most} {
		for _, r := range []api.Record{rec(3, 4), rec(-3, -4), rec(least, most)} {
			if got := oper.Value(of(api.FnKeep, arg), r); got != r {
				t.Errorf("FnKeep of %v = %v", r, got)
			}
			if got := oper.Value(of(api.FnOne, arg), r); got != rec(arg, r.Val) {
				t.Errorf("FnOne, %d of %v = %v", arg, r, got)
			}
		}
	}
}

func TestP71ValueOfOthers(t *testing.T) {
	r := rec(-7, 9)
	// FnLast is none of theirs.
	for _, fn := range append(noFns(), api.FnLast) {
		for _, kind := range []int{api.OpMap, api.OpKey} {
			if got := oper.Value(api.Op{Kind: kind, Fn: fn, Arg: 4}, r); got != r {
				t.Errorf("Kind %d, Fn %d: %v", kind, fn, got)
			}
		}
	}
	others := append(noKinds(), api.OpSource, api.OpFilter, api.OpFold, api.OpWindow, api.OpRoute, api.OpUnion, api.OpSink)
	for _, kind := range others {
		for fn := range 7 {
			if got := oper.Value(api.Op{Kind: kind, Fn: fn, Arg: 4}, r); got != r {
				t.Errorf("Kind %d, Fn %d: %v", kind, fn, got)
			}
		}
	}
}

func TestP71Holds(t *testing.T) {
	for _, x := range []struct {
		fn       int
		arg, val int64
		want     bool
	}{
		{api.FnLess, 3, 2, true},
		{api.FnLess, 3, 3, false},
		{api.FnLess, 3, 4, false},
		{api.FnLess, -3, -4, true},
		{api.FnLess, least, least, false},
		{api.FnLess, most, least, true},
		{api.FnLess, least, most, false},
		{api.FnLess, most, most, false},
		{api.FnEqual, 3, 3, true},
		{api.FnEqual, 3, 2, false},
		{api.FnEqual, 3, 4, false},
		{api.FnEqual, 3, -3, false},
		{api.FnEqual, least, least, true},
		{api.FnEqual, least, most, false},
		{api.FnOdd, 0, 1, true},
		{api.FnOdd, 0, 2, false},
		{api.FnOdd, 0, 0, false},
		{api.FnOdd, 0, -1, true},
		{api.FnOdd, 0, -2, false},
		{api.FnOdd, 0, -3, true},
		{api.FnOdd, 0, most, true},
		{api.FnOdd, 0, least, false},
		{api.FnOdd, 0, least + 1, true},
		{api.FnOdd, 4, 1, true},
		{api.FnOdd, 1, 2, false},
		{api.FnMask, 6, 2, true},
		{api.FnMask, 6, 9, false},
		{api.FnMask, 0, -1, false},
		{api.FnMask, -1, 0, false},
		{api.FnMask, -1, 1, true},
		{api.FnMask, least, -1, true},
		{api.FnMask, least, least, true},
		{api.FnMask, least, most, false},
		{api.FnMask, 2, -1, true},
	} {
		// The key has no say in it.
		for _, key := range []int64{x.val, x.arg, 0, 1, -1} {
			o := api.Op{Kind: api.OpFilter, Fn: x.fn, Arg: x.arg}
			if got := oper.Holds(o, rec(key, x.val)); got != x.want {
				t.Errorf("Holds(%v, %d) = %v", o, x.val, got)
			}
		}
	}
}

func TestP71HoldsOfOthers(t *testing.T) {
	for _, fn := range append(noFns(), api.FnLast) {
		for _, val := range []int64{-1, 3, 4, 5} {
			if oper.Holds(api.Op{Kind: api.OpFilter, Fn: fn, Arg: 4}, rec(4, val)) {
				t.Errorf("Fn %d holds of %d", fn, val)
			}
		}
	}
	others := append(noKinds(), api.OpSource, api.OpMap, api.OpKey, api.OpFold, api.OpWindow, api.OpRoute, api.OpUnion, api.OpSink)
	for _, kind := range others {
		for _, fn := range []int{-1, 0, 1, 2, 3, 4, 5, 6} {
			if !oper.Holds(api.Op{Kind: kind, Fn: fn, Arg: 8}, rec(8, 16)) {
				t.Errorf("Kind %d, Fn %d does not hold", kind, fn)
			}
		}
	}
}

func TestP72AccOfTheFirst(t *testing.T) {
	for _, count := range []int64{0, -1, -64, least} {
		for _, acc := range []int64{0, 9, -9, least, most} {
			for _, val := range []int64{0, 5, -5, least, most} {
				for fn := -1; fn <= 7; fn++ {
					want := val
					if fn == api.FnCount {
						want = 1
					}
					if got := oper.Acc(fn, ks(3, count, acc), val); got != want {
						t.Errorf("Acc(%d, Count %d, %d, %d) = %d", fn, count, acc, val, got)
					}
				}
			}
		}
	}
}

func TestP72AccOfMore(t *testing.T) {
	for _, x := range []struct {
		fn             int
		acc, val, want int64
	}{
		{api.FnSum, 3, 4, 7},
		{api.FnSum, 3, -4, -1},
		{api.FnSum, most, 1, least},
		{api.FnSum, least, -1, most},
		{api.FnSum, least, least, 0},
		{api.FnCount, 3, 40, 4},
		{api.FnCount, -3, 40, -2},
		{api.FnCount, most, 40, least},
		{api.FnCount, api.MaxNum, 0, api.MaxNum + 1},
		{api.FnMax, 3, 4, 4},
		{api.FnMax, 4, 3, 4},
		{api.FnMax, 4, 4, 4},
		{api.FnMax, least, most, most},
		{api.FnMax, -3, -4, -3},
		{api.FnMin, 3, 4, 3},
		{api.FnMin, 4, 3, 3},
		{api.FnMin, 4, 4, 4},
		{api.FnMin, most, least, least},
		{api.FnMin, -3, -4, -4},
		{api.FnLast, 3, 4, 4},
		{api.FnLast, 4, 3, 3},
		{api.FnLast, most, least, least},
	} {
		for _, count := range []int64{1, 2, 64, api.MaxNum, api.MaxNum + 1, most} {
			if got := oper.Acc(x.fn, ks(3, count, x.acc), x.val); got != x.want {
				t.Errorf("Acc(%d, Count %d, %d, %d) = %d; want %d", x.fn, count, x.acc, x.val, got, x.want)
			}
		}
	}
	for _, fn := range noFns() {
		for _, val := range []int64{5, -5, least, most} {
			if got := oper.Acc(fn, ks(3, 1, 9), val); got != val {
				t.Errorf("Acc(%d, .., %d) = %d", fn, val, got)
			}
		}
	}
}
