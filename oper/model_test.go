package oper_test

import (
	"math"
	"math/big"
	"math/rand"
	"slices"
	"testing"

	"pontoon/api"
	"pontoon/oper"
	"pontoon/pack"
)

const (
	least = math.MinInt64
	most  = math.MaxInt64
)

func rec(key, val int64) api.Record { return api.Record{Key: key, Val: val} }

func put(port int, key, val int64) api.Put { return api.Put{Port: port, Record: rec(key, val)} }

func ks(key, count, acc int64) api.KeyState { return api.KeyState{Key: key, Count: count, Acc: acc} }

func keep(l ...api.KeyState) api.OpState { return api.OpState{Keys: l} }

func number(n int64) *big.Int { return big.NewInt(n) }

// wrapped is n as an int64 that wraps round has it.
func wrapped(n *big.Int) int64 {
	whole := new(big.Int).Lsh(number(1), 64)
	return int64(new(big.Int).Mod(n, whole).Uint64())
}

// modelRest does what the chapter's opening tells.
func modelRest(x, arg int64) int64 {
	if arg < 1 {
		return 0
	}
	return new(big.Int).Mod(number(x), number(arg)).Int64()
}

// modelValue does what P7.1 tells, word by word.
func modelValue(o api.Op, r api.Record) api.Record {
	val, arg := number(r.Val), number(o.Arg)
	switch {
	case o.Kind == 2 && o.Fn == 1:
		r.Val = wrapped(val.Add(val, arg))
	case o.Kind == 2 && o.Fn == 2:
		r.Val = wrapped(val.Mul(val, arg))
	case o.Kind == 2 && o.Fn == 3:
		r.Val = wrapped(val.Neg(val))
	case o.Kind == 2 && o.Fn == 4:
		r.Val = wrapped(val.Xor(val, arg))
	case o.Kind == 4 && o.Fn == 2:
		r.Key = modelRest(r.Key, o.Arg)
	case o.Kind == 4 && o.Fn == 3:
		r.Key = modelRest(r.Val, o.Arg)
	case o.Kind == 4 && o.Fn == 4:
		r.Key = o.Arg
	}
	return r
}

func modelHolds(o api.Op, r api.Record) bool {
	if o.Kind != 3 {
		return true
	}
	val, arg := number(r.Val), number(o.Arg)
	switch o.Fn {
	case 1:
		return val.Cmp(arg) < 0
	case 2:
		return val.Cmp(arg) == 0
	case 3:
		return val.Bit(0) == 1
	case 4:
		return val.And(val, arg).Sign() != 0
	}
	return false
}

// modelAcc does what P7.2 tells, word by word.
func modelAcc(fn int, had api.KeyState, val int64) int64 {
	if had.Count < 1 {
		if fn == 2 {
			return 1
		}
		return val
	}
	switch fn {
	case 1:
		return wrapped(new(big.Int).Add(number(had.Acc), number(val)))
	case 2:
		return wrapped(new(big.Int).Add(number(had.Acc), number(1)))
	case 3:
		if had.Acc > val {
			return had.Acc
		}
	case 4:
		if had.Acc < val {
			return had.Acc
		}
	}
	return val
}

// modelStep does what P7.3 tells, word by word.
func modelStep(o api.Op, s api.OpState, r api.Record) (api.OpState, []api.Put) {
	switch o.Kind {
	case 2, 4:
		return s, []api.Put{{Record: modelValue(o, r)}}
	case 3:
		if modelHolds(o, r) {
			return s, []api.Put{{Record: r}}
		}
	case 1, 8:
		return s, []api.Put{{Record: r}}
	case 7:
		return s, []api.Put{{Port: int(modelRest(r.Key, o.Arg)), Record: r}}
	case 5, 6:
		return modelKeyed(o, s, r)
	}
	return s, nil
}

func modelKeyed(o api.Op, s api.OpState, r api.Record) (api.OpState, []api.Put) {
	had := api.KeyState{Key: r.Key}
	ahead, behind := s.Keys, []api.KeyState(nil)
	if i := slices.IndexFunc(s.Keys, func(k api.KeyState) bool { return k.Key == r.Key }); i >= 0 {
		had, ahead, behind = s.Keys[i], s.Keys[:i], s.Keys[i+1:]
	} else if i := slices.IndexFunc(s.Keys, func(k api.KeyState) bool { return k.Key > r.Key }); i >= 0 {
		ahead, behind = s.Keys[:i], s.Keys[i:]
	}
	now := api.KeyState{Key: r.Key, Acc: modelAcc(o.Fn, had, r.Val)}
	more := new(big.Int).Add(number(had.Count), number(1))
	if most := number(9007199254740992); more.Cmp(most) > 0 {
		more = most
	}
	now.Count = more.Int64()
	out := []api.Put{{Record: api.Record{Key: r.Key, Val: now.Acc}}}
	middle := []api.KeyState{now}
	if o.Kind == 6 && now.Count >= o.Arg {
		middle = nil
	} else if o.Kind == 6 {
		out = nil
	}
	return api.OpState{Keys: slices.Concat(ahead, middle, behind), Turn: s.Turn}, out
}

func modelAll(o api.Op, s api.OpState, l []api.Record) (api.OpState, []api.Put) {
	var out []api.Put
	for _, r := range l {
		next, more := modelStep(o, s, r)
		s, out = next, append(out, more...)
	}
	return s, out
}

// modelCheck does what P7.4 tells, word by word.
func modelCheck(o api.Op, s api.OpState) api.Errno {
	last := 0
	if o.Kind == 8 && len(o.In) > 0 {
		last = len(o.In) - 1
	}
	if s.Turn < 0 || s.Turn > last {
		return 70
	}
	if o.Kind != 5 && o.Kind != 6 && len(s.Keys) > 0 {
		return 70
	}
	for i, k := range s.Keys {
		top := number(9007199254740992)
		if o.Kind == 6 {
			top = new(big.Int).Sub(number(o.Arg), number(1))
		}
		if i > 0 && k.Key <= s.Keys[i-1].Key || k.Count < 1 || number(k.Count).Cmp(top) > 0 {
			return 70
		}
	}
	return 0
}

func modelSame(a, b api.OpState) bool {
	return a.Turn == b.Turn && slices.Equal(a.Keys, b.Keys)
}

// checkAll holds all that is told of an operator, a state and records against the model.
func checkAll(t *testing.T, o api.Op, s api.OpState, l []api.Record) {
	t.Helper()
	keys, records := slices.Clone(s.Keys), slices.Clone(l)
	if got, want := oper.Check(o, s), modelCheck(o, s); got != want {
		t.Fatalf("Check(%v, %v) = %d; want %d", o, s, got, want)
	}
	now, steps := s, []api.Put(nil)
	for _, r := range l {
		if got, want := oper.Value(o, r), modelValue(o, r); got != want {
			t.Fatalf("Value(%v, %v) = %v; want %v", o, r, got, want)
		}
		if got, want := oper.Holds(o, r), modelHolds(o, r); got != want {
			t.Fatalf("Holds(%v, %v) = %v; want %v", o, r, got, want)
		}
		next, out := oper.Step(o, now, r)
		if want, wantOut := modelStep(o, now, r); !modelSame(next, want) || !slices.Equal(out, wantOut) {
			t.Fatalf("Step(%v, %v, %v) = %v, %v; want %v, %v", o, now, r, next, out, want, wantOut)
		}
		now, steps = next, append(steps, out...)
	}
	end, out := oper.All(o, s, l...)
	if want, wantOut := modelAll(o, s, l); !modelSame(end, want) || !slices.Equal(out, wantOut) {
		t.Fatalf("All(%v, %v, %v) = %v, %v; want %v, %v", o, s, l, end, out, want, wantOut)
	}
	if !oper.Same(end, now) || !slices.Equal(out, steps) {
		t.Fatalf("All(%v, %v, %v) = %v, %v; by steps %v, %v", o, s, l, end, out, now, steps)
	}
	if !slices.Equal(s.Keys, keys) || !slices.Equal(l, records) {
		t.Fatalf("%v, %v became %v, %v", keys, records, s.Keys, l)
	}
}

// anyNumber is one of those at which something changes, or any one.
func anyNumber(r *rand.Rand) int64 {
	l := []int64{0, 0, 1, 1, -1, 2, 3, 4, -2, 63, 64, 65, api.MaxNum - 1, api.MaxNum, api.MaxNum + 1, -api.MaxNum, least, least + 1, most - 1, most}
	if n := r.Intn(2 * len(l)); n < len(l) {
		return l[n]
	}
	return int64(r.Uint64()) >> r.Intn(64)
}

// someKey is one of few keys, so that they come again.
func someKey(r *rand.Rand, keys int) int64 {
	if r.Intn(20) == 0 {
		return anyNumber(r)
	}
	return int64(r.Intn(keys)) - int64(keys/2)
}

func anyOp(r *rand.Rand) api.Op {
	o := api.Op{Kind: r.Intn(11), Fn: r.Intn(7), Arg: int64(r.Intn(6))}
	if r.Intn(2) == 0 {
		o.Kind = api.OpFold + r.Intn(2)
	}
	if r.Intn(10) == 0 {
		o.Kind = int(anyNumber(r))
	}
	if r.Intn(10) == 0 {
		o.Fn = int(anyNumber(r))
	}
	if r.Intn(3) == 0 {
		o.Arg = anyNumber(r)
	}
	if r.Intn(2) == 0 {
		o.In = make([]api.Edge, r.Intn(5))
	}
	return o
}

// anyState is mostly one that Check does not take: keys that do not rise, and come again.
func anyState(r *rand.Rand, keys int) api.OpState {
	var s api.OpState
	if r.Intn(2) == 0 {
		s.Turn = r.Intn(6) - 1
	}
	for range r.Intn(10) {
		k := api.KeyState{Key: someKey(r, keys), Count: int64(r.Intn(4)), Acc: anyNumber(r)}
		if r.Intn(10) == 0 {
			k.Count = anyNumber(r)
		}
		s.Keys = append(s.Keys, k)
	}
	if r.Intn(2) == 0 {
		slices.SortFunc(s.Keys, func(a, b api.KeyState) int { return number(a.Key).Cmp(number(b.Key)) })
	}
	if r.Intn(2) == 0 {
		s.Keys = slices.CompactFunc(s.Keys, func(a, b api.KeyState) bool { return a.Key == b.Key })
	}
	return s
}

func anyRecords(r *rand.Rand, keys int) []api.Record {
	var l []api.Record
	for range r.Intn(24) {
		l = append(l, rec(someKey(r, keys), anyNumber(r)))
	}
	return l
}

func TestModel(t *testing.T) {
	r := rand.New(rand.NewSource(1))
	for range 60000 {
		keys := 1 + r.Intn(12)
		checkAll(t, anyOp(r), anyState(r, keys), anyRecords(r, keys))
	}
}

// TestModelWindowsGoAndCome: of keys in any order that windows take away and bring again, at places that hang on all that was there in between.
func TestModelWindowsGoAndCome(t *testing.T) {
	r := rand.New(rand.NewSource(2))
	for range 20000 {
		keys := 2 + r.Intn(10)
		o := api.Op{Kind: api.OpWindow, Fn: 1 + r.Intn(5), Arg: int64(2 + r.Intn(2))}
		var s api.OpState
		for range r.Intn(2 * keys) {
			s.Keys = append(s.Keys, ks(int64(r.Intn(keys)), 1, 7))
		}
		var l []api.Record
		for range r.Intn(60) {
			l = append(l, rec(int64(r.Intn(keys)), int64(r.Intn(9))))
		}
		checkAll(t, o, s, l)
	}
}

func TestModelAcc(t *testing.T) {
	r := rand.New(rand.NewSource(3))
	for range 60000 {
		fn, had, val := r.Intn(8)-1, ks(anyNumber(r), anyNumber(r), anyNumber(r)), anyNumber(r)
		if got, want := oper.Acc(fn, had, val), modelAcc(fn, had, val); got != want {
			t.Fatalf("Acc(%d, %v, %d) = %d; want %d", fn, had, val, got, want)
		}
	}
}

// FuzzAll takes the first numbers of its bytes as an operator and a turn, the next ones as KeyStates, and the rest as records.
func FuzzAll(f *testing.F) {
	f.Add(pack.Int(nil, 6, 1, 2, 0, 0, 0, 1, 5, 2, 9, 1, 6))
	f.Add(pack.Int(nil, 6, 1, 2, 0, 0, 2, 9, 1, 0, 3, 1, 0, 5, 1, 9, 1, 4, 4))
	f.Add(pack.Int(nil, 5, 3, 0, 1, 2, 1, 4, api.MaxNum, 4, 4, 4))
	f.Add(pack.Int(nil, 7, 0, 2, 0, 0, 0, -1, 5))
	f.Fuzz(func(t *testing.T, b []byte) {
		var n []int64
		for x := range pack.Ints(b) {
			n = append(n, x)
		}
		if len(n) < 6 {
			return
		}
		o := api.Op{Kind: int(n[0]), Fn: int(n[1]), Arg: n[2], In: make([]api.Edge, n[3]&7)}
		s := api.OpState{Turn: int(n[4])}
		left := int(n[5] & 15)
		n = n[6:]
		for ; left > 0 && len(n) >= 3; left-- {
			s.Keys = append(s.Keys, ks(n[0], n[1], n[2]))
			n = n[3:]
		}
		var l []api.Record
		for ; len(n) >= 2; n = n[2:] {
			l = append(l, rec(n[0], n[1]))
		}
		checkAll(t, o, s, l)
	})
}
