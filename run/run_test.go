package run_test

import (
	"slices"
	"testing"

	"pontoon/api"
	"pontoon/graph"
	"pontoon/run"
)

// in is inputs from the first ports of these operators.
func in(l ...int) []api.Edge {
	var out []api.Edge
	for _, n := range l {
		out = append(out, api.Edge{From: n})
	}
	return out
}

func of(parts int, ops ...api.Op) api.Graph { return api.Graph{Parts: parts, Ops: ops} }

func source(part int) api.Op { return api.Op{Kind: api.OpSource, Part: part} }

func neg(from int) api.Op { return api.Op{Kind: api.OpMap, Fn: api.FnNeg, In: in(from)} }

func route(count int64, from int) api.Op {
	return api.Op{Kind: api.OpRoute, Arg: count, In: in(from)}
}

func union(in ...api.Edge) api.Op { return api.Op{Kind: api.OpUnion, In: in} }

func sink(from int) api.Op { return api.Op{Kind: api.OpSink, In: in(from)} }

// ports are so many first ports of an operator.
func ports(from, count int) []api.Edge {
	var out []api.Edge
	for port := range count {
		out = append(out, api.Edge{From: from, Port: port})
	}
	return out
}

// recs is records of keys and values by turns.
func recs(l ...int64) []api.Record {
	var out []api.Record
	for ; len(l) >= 2; l = l[2:] {
		out = append(out, api.Record{Key: l[0], Val: l[1]})
	}
	return out
}

func keys(l ...api.KeyState) api.TaskState { return api.TaskState{State: api.OpState{Keys: l}} }

func ks(key, count, acc int64) api.KeyState { return api.KeyState{Key: key, Count: count, Acc: acc} }

func turn(n int, buffers ...[]api.Record) api.TaskState {
	return api.TaskState{State: api.OpState{Turn: n}, Buffers: buffers}
}

func wantRun(t *testing.T, g api.Graph, prefixes [][]api.Record, want []api.Record) {
	t.Helper()
	if got, e := run.Run(g, prefixes...); e != api.OK || !slices.Equal(got, want) {
		t.Errorf("Run(%v, %v) = %v, %d; want %v", g, prefixes, got, e, want)
	}
	checkAll(t, g, prefixes...)
}

func wantPorts(t *testing.T, g api.Graph, op int, prefixes [][]api.Record, want ...[]api.Record) {
	t.Helper()
	if got, e := run.Ports(g, op, prefixes...); e != api.OK || !sameLists(got, want) {
		t.Errorf("Ports(%v, %d, %v) = %v, %d; want %v", g, op, prefixes, got, e, want)
	}
}

func wantStates(t *testing.T, g api.Graph, prefixes [][]api.Record, want ...api.TaskState) {
	t.Helper()
	if got, e := run.States(g, prefixes...); e != api.OK || !slices.EqualFunc(got, want, sameTask) {
		t.Errorf("States(%v, %v) = %v, %d; want %v", g, prefixes, got, e, want)
	}
}

// two is a union of two sources, and a sink.
func two() api.Graph { return of(2, source(0), source(1), union(in(0, 1)...), sink(2)) }

func TestExampleUnion(t *testing.T) {
	l := speltAll("abc", "x")
	wantRun(t, two(), l, spelt("axb"))
	wantPorts(t, two(), 2, l, spelt("axb"))
	wantStates(t, two(), l, turn(0), turn(0), turn(1, spelt("c"), nil), turn(0))
}

func TestP82SourceAndSink(t *testing.T) {
	g := of(1, source(0), sink(0))
	l := recs(2, 5, 1, -9, 2, 5, most, least)
	wantRun(t, g, [][]api.Record{l}, l)
	wantPorts(t, g, 0, [][]api.Record{l}, l)
	wantPorts(t, g, 1, [][]api.Record{l})
	wantStates(t, g, [][]api.Record{l}, api.TaskState{}, api.TaskState{})
}

// TestP82EachToItsPartition: sources stand in any order.
func TestP82EachToItsPartition(t *testing.T) {
	g := of(4, source(2), source(0), source(3), source(1), union(in(0, 1, 2, 3)...), sink(4))
	l := speltAll("a", "bb", "ccc", "dddd")
	wantPorts(t, g, 0, l, spelt("ccc"))
	wantPorts(t, g, 1, l, spelt("a"))
	wantPorts(t, g, 2, l, spelt("dddd"))
	wantPorts(t, g, 3, l, spelt("bb"))
	wantRun(t, g, l, spelt("cadbc"))
}

func TestP82OneInputOnePort(t *testing.T) {
	l := recs(2, 5, 1, -9, 2, 3, -1, 4, 1, 1, 2, 8)
	for _, x := range []struct {
		o    api.Op
		out  []api.Record
		keys []api.KeyState
	}{
		{api.Op{Kind: api.OpMap, Fn: api.FnAdd, Arg: 2}, recs(2, 7, 1, -7, 2, 5, -1, 6, 1, 3, 2, 10), nil},
		{api.Op{Kind: api.OpMap, Fn: api.FnMul, Arg: -1}, recs(2, -5, 1, 9, 2, -3, -1, -4, 1, -1, 2, -8), nil},
		{api.Op{Kind: api.OpMap, Fn: api.FnNeg}, recs(2, -5, 1, 9, 2, -3, -1, -4, 1, -1, 2, -8), nil},
		{api.Op{Kind: api.OpMap, Fn: api.FnXor, Arg: 1}, recs(2, 4, 1, -10, 2, 2, -1, 5, 1, 0, 2, 9), nil},
		{api.Op{Kind: api.OpFilter, Fn: api.FnLess, Arg: 4}, recs(1, -9, 2, 3, 1, 1), nil},
		{api.Op{Kind: api.OpFilter, Fn: api.FnEqual, Arg: 4}, recs(-1, 4), nil},
		{api.Op{Kind: api.OpFilter, Fn: api.FnOdd}, recs(2, 5, 1, -9, 2, 3, 1, 1), nil},
		{api.Op{Kind: api.OpFilter, Fn: api.FnMask, Arg: 12}, recs(2, 5, 1, -9, -1, 4, 2, 8), nil},
		{api.Op{Kind: api.OpFilter, Fn: api.FnEqual, Arg: 77}, nil, nil},
		{api.Op{Kind: api.OpKey, Fn: api.FnKeep}, l, nil},
		{api.Op{Kind: api.OpKey, Fn: api.FnMod, Arg: 2}, recs(0, 5, 1, -9, 0, 3, 1, 4, 1, 1, 0, 8), nil},
		{api.Op{Kind: api.OpKey, Fn: api.FnVal, Arg: 2}, recs(1, 5, 1, -9, 1, 3, 0, 4, 1, 1, 0, 8), nil},
		{api.Op{Kind: api.OpKey, Fn: api.FnOne, Arg: -7}, recs(-7, 5, -7, -9, -7, 3, -7, 4, -7, 1, -7, 8), nil},
		{api.Op{Kind: api.OpFold, Fn: api.FnSum}, recs(2, 5, 1, -9, 2, 8, -1, 4, 1, -8, 2, 16),
			[]api.KeyState{ks(-1, 1, 4), ks(1, 2, -8), ks(2, 3, 16)}},
		{api.Op{Kind: api.OpFold, Fn: api.FnMax}, recs(2, 5, 1, -9, 2, 5, -1, 4, 1, 1, 2, 8),
			[]api.KeyState{ks(-1, 1, 4), ks(1, 2, 1), ks(2, 3, 8)}},
		{api.Op{Kind: api.OpFold, Fn: api.FnCount}, recs(2, 1, 1, 1, 2, 2, -1, 1, 1, 2, 2, 3),
			[]api.KeyState{ks(-1, 1, 1), ks(1, 2, 2), ks(2, 3, 3)}},
		{api.Op{Kind: api.OpWindow, Fn: api.FnSum, Arg: 2}, recs(2, 8, 1, -8), []api.KeyState{ks(-1, 1, 4), ks(2, 1, 8)}},
		{api.Op{Kind: api.OpWindow, Fn: api.FnMin, Arg: 3}, recs(2, 3), []api.KeyState{ks(-1, 1, 4), ks(1, 2, -9)}},
		{api.Op{Kind: api.OpWindow, Fn: api.FnLast, Arg: 1}, l, nil},
		{api.Op{Kind: api.OpWindow, Fn: api.FnCount, Arg: api.MaxCount}, nil, []api.KeyState{ks(-1, 1, 1), ks(1, 2, 2), ks(2, 3, 3)}},
	} {
		x.o.In = in(0)
		g := of(1, source(0), x.o, sink(1))
		wantPorts(t, g, 1, [][]api.Record{l}, x.out)
		wantStates(t, g, [][]api.Record{l}, turn(0), keys(x.keys...), turn(0))
		wantRun(t, g, [][]api.Record{l}, x.out)
		if s, _ := run.States(g, l); s[0].Buffers != nil || s[1].Buffers != nil || s[2].Buffers != nil {
			t.Errorf("%v: Buffers where there is no OpUnion: %v", x.o, s)
		}
	}
}

func TestR7ValuesWrapRound(t *testing.T) {
	g := of(1, source(0), api.Op{Kind: api.OpMap, Fn: api.FnMul, Arg: 2, In: in(0)}, api.Op{Kind: api.OpFold, Fn: api.FnSum, In: in(1)}, sink(2))
	wantRun(t, g, [][]api.Record{recs(1, most, 1, least, 1, 1<<62-1, 1, 1)}, recs(1, -2, 1, -2, 1, most-3, 1, most-1))
}

func TestP82Route(t *testing.T) {
	l := recs(0, 10, 1, 11, 2, 12, 3, 13, 4, 14, -1, 15, -2, 16, -3, 17, -4, 18, 5, 19)
	for _, x := range [][][]api.Record{
		{recs(0, 10, 2, 12, 4, 14, -2, 16, -4, 18), recs(1, 11, 3, 13, -1, 15, -3, 17, 5, 19)},
		{recs(0, 10, 3, 13, -3, 17), recs(1, 11, 4, 14, -2, 16), recs(2, 12, -1, 15, -4, 18, 5, 19)},
		{recs(0, 10, 4, 14, -4, 18), recs(1, 11, -3, 17, 5, 19), recs(2, 12, -2, 16), recs(3, 13, -1, 15)},
	} {
		g := of(1, source(0), route(int64(len(x)), 0), union(ports(1, len(x))...), sink(2))
		wantPorts(t, g, 1, [][]api.Record{l}, x...)
		checkAll(t, g, l)
		// All to one port: the others have none, but are there.
		wantPorts(t, g, 1, [][]api.Record{recs(12, 1, 24, 2)}, append([][]api.Record{recs(12, 1, 24, 2)}, make([][]api.Record, len(x)-1)...)...)
		wantPorts(t, g, 1, [][]api.Record{nil}, make([][]api.Record, len(x))...)
	}
}

func TestP82UnionOfTwo(t *testing.T) {
	for _, x := range []struct {
		a, b, out   string
		turn        int
		leftA, left string
	}{
		{"", "", "", 0, "", ""},
		{"a", "", "a", 1, "", ""},
		{"abc", "", "a", 1, "bc", ""},
		{"", "xyz", "", 0, "", "xyz"},
		{"abc", "xyz", "axbycz", 0, "", ""},
		{"abcd", "xyz", "axbyczd", 1, "", ""},
		{"abcdef", "xyz", "axbyczd", 1, "ef", ""},
		{"abc", "xyzuv", "axbycz", 0, "", "uv"},
	} {
		l := speltAll(x.a, x.b)
		wantPorts(t, two(), 2, l, spelt(x.out))
		wantStates(t, two(), l, turn(0), turn(0), turn(x.turn, spelt(x.leftA), spelt(x.left)), turn(0))
		wantRun(t, two(), l, spelt(x.out))
		// Its inputs count, not the numbers of the operators.
		g := of(2, source(1), source(0), union(in(1, 0)...), sink(2))
		wantRun(t, g, l, spelt(x.out))
		wantStates(t, g, l, turn(0), turn(0), turn(x.turn, spelt(x.leftA), spelt(x.left)), turn(0))
	}
}

func TestP82UnionOfMaxPorts(t *testing.T) {
	g := of(api.MaxParts, source(0), source(1), source(2), source(3), union(in(2, 0, 3, 1)...), sink(4))
	l := speltAll("abc", "m", "uvwx", "yz")
	wantRun(t, g, l, spelt("uaymvbz"))
	wantStates(t, g, l, turn(0), turn(0), turn(0), turn(0), turn(3, spelt("wx"), spelt("c"), nil, nil), turn(0))
	l = speltAll("abc", "mno", "", "yz")
	wantRun(t, g, l, nil)
	wantStates(t, g, l, turn(0), turn(0), turn(0), turn(0), turn(0, nil, spelt("abc"), spelt("yz"), spelt("mno")), turn(0))
}

func TestP82UnionOfAUnion(t *testing.T) {
	g := of(3, source(0), source(1), source(2), union(in(0, 1)...), union(in(3, 2)...), sink(4))
	l := speltAll("abcde", "xyz", "123456")
	// The first union tells a x b y c z d.
	wantPorts(t, g, 3, l, spelt("axbyczd"))
	wantRun(t, g, l, spelt("a1x2b3y4c5z6d"))
	wantStates(t, g, l, turn(0), turn(0), turn(0), turn(1, spelt("e"), nil), turn(1, nil, nil), turn(0))
	l[2] = spelt("12")
	wantRun(t, g, l, spelt("a1x2b"))
	wantStates(t, g, l, turn(0), turn(0), turn(0), turn(1, spelt("e"), nil), turn(1, spelt("yczd"), nil), turn(0))
}

func TestP82PortsThatComeTogether(t *testing.T) {
	// The second port's records come first, and are negated.
	g := of(1, source(0), route(2, 0),
		api.Op{Kind: api.OpMap, Fn: api.FnNeg, In: []api.Edge{{From: 1, Port: 1}}},
		union(api.Edge{From: 2}, api.Edge{From: 1}), sink(3))
	l := [][]api.Record{recs(0, 1, 0, 2, 1, 3, 0, 4, 1, 5)}
	wantPorts(t, g, 1, l, recs(0, 1, 0, 2, 0, 4), recs(1, 3, 1, 5))
	wantRun(t, g, l, recs(1, -3, 0, 1, 1, -5, 0, 2))
	wantStates(t, g, l, turn(0), turn(0), turn(0), turn(0, nil, recs(0, 4)), turn(0))
}

func TestP82RouteBehindAUnion(t *testing.T) {
	g := of(2, source(1), source(0), union(in(0, 1)...), route(2, 2), union(api.Edge{From: 3, Port: 1}, api.Edge{From: 3}), sink(4))
	wantRun(t, g, [][]api.Record{recs(1, 1, 2, 2), recs(1, 3, 4, 4)}, recs(1, 3, 4, 4, 1, 1, 2, 2))
}

// greatest is a graph of MaxOps operators and MaxParts partitions.
func greatest() api.Graph {
	g := of(api.MaxParts, source(3), source(2), source(1), source(0), union(in(3, 2, 1, 0)...))
	for len(g.Ops) < api.MaxOps-1 {
		g.Ops = append(g.Ops, api.Op{Kind: api.OpMap, Fn: api.FnAdd, Arg: 1, In: in(len(g.Ops) - 1)})
	}
	g.Ops = append(g.Ops, sink(len(g.Ops)-1))
	return g
}

func TestP82GreatestGraph(t *testing.T) {
	g := greatest()
	l := [][]api.Record{recs(0, 1, 0, 2), recs(1, 3, 1, 4), recs(2, 5, 2, 6), recs(3, 7)}
	wantRun(t, g, l, recs(0, 19, 1, 21, 2, 23, 3, 25, 0, 20, 1, 22, 2, 24))
	wantPorts(t, g, api.MaxOps-1, l)
	wantPorts(t, g, 0, l, recs(3, 7))
	g.Ops[5] = api.Op{Kind: api.OpFold, Fn: api.FnSum, In: in(4)}
	g.Ops[22] = api.Op{Kind: api.OpWindow, Fn: api.FnCount, Arg: 2, In: in(21)}
	wantRun(t, g, l, recs(0, 2, 1, 2, 2, 2))
	states, _ := run.States(g, l...)
	if !sameTask(states[5], keys(ks(0, 2, 3), ks(1, 2, 7), ks(2, 2, 11), ks(3, 1, 7))) || !sameTask(states[22], keys(ks(3, 1, 1))) {
		t.Errorf("States: %v", states)
	}
	if !sameTask(states[4], turn(3, nil, nil, nil, nil)) {
		t.Errorf("the union keeps %v", states[4])
	}
}

// refused is graphs that graph.Check refuses, by what it tells.
func refused() map[api.Errno][]api.Graph {
	long := greatest()
	long.Ops = slices.Insert(long.Ops, api.MaxOps-1, neg(api.MaxOps-2))
	long.Ops[api.MaxOps] = sink(api.MaxOps - 1)
	return map[api.Errno][]api.Graph{
		api.ErrArg:   {{}, of(0, source(0), sink(0)), of(-1), of(api.MaxParts+1, source(0), sink(0)), of(most), of(least)},
		api.ErrLong:  {long},
		api.ErrKind:  {of(1, source(0), api.Op{Kind: 10, In: in(0)}), of(1, api.Op{})},
		api.ErrField: {of(1, source(1), sink(0)), of(1, source(0), route(5, 0), sink(1))},
		api.ErrEdge:  {of(1, source(0), neg(1), sink(1)), of(1, source(0), api.Op{Kind: api.OpSink}), of(1, source(0), sink(-1)), of(1, source(0), sink(7))},
		api.ErrTaken: {of(1, source(0), union(in(0, 0)...), sink(1))},
		api.ErrLoose: {of(1, source(0)), of(1, source(0), route(2, 0), sink(1))},
		api.ErrPart:  {of(1), of(2, source(0), sink(0)), of(1, source(0), source(0), union(in(0, 1)...), sink(2))},
		api.ErrSink:  {of(2, source(0), source(1), sink(0), sink(1))},
	}
}

func TestP83RefusedGraphs(t *testing.T) {
	for want, graphs := range refused() {
		for _, g := range graphs {
			if _, e := graph.Check(g); e != want {
				t.Fatalf("graph.Check(%v) = %d; want %d", g, e, want)
			}
			// Whatever else is wrong, the graph's error comes first.
			for _, op := range []int{least, -1, 0, 1, len(g.Ops), most} {
				for _, l := range [][][]api.Record{nil, speltAll("a"), speltAll("a", "b"), speltAll("a", "b", "c", "d"), make([][]api.Record, 9)} {
					checkRefused(t, g, op, want, l...)
				}
			}
		}
	}
}

func TestP83HowManyPrefixes(t *testing.T) {
	for parts := 1; parts <= api.MaxParts; parts++ {
		g := of(parts)
		for part := range parts {
			g.Ops = append(g.Ops, source(part))
		}
		if parts > 1 {
			g.Ops = append(g.Ops, union(in([]int{0, 1, 2, 3}[:parts]...)...))
		}
		g.Ops = append(g.Ops, sink(len(g.Ops)-1))
		for count := range 8 {
			for _, l := range [][][]api.Record{make([][]api.Record, count), slices.Repeat(speltAll("ab"), count)} {
				if count == parts {
					checkAll(t, g, l...)
					continue
				}
				for _, op := range []int{-1, 0, len(g.Ops) - 1, len(g.Ops)} {
					checkRefused(t, g, op, api.ErrArg, l...)
				}
			}
		}
	}
}

func TestP83NoSuchOperator(t *testing.T) {
	g := two()
	for _, op := range []int{least, -1 << 32, -4, -1, 4, 5, 1 << 32, most} {
		if got, e := run.Ports(g, op, spelt("ab"), spelt("xy")); got != nil || e != api.ErrArg {
			t.Errorf("Ports of %d = %v, %d", op, got, e)
		}
	}
	wantPorts(t, g, 0, speltAll("ab", "xy"), spelt("ab"))
	wantPorts(t, g, 3, speltAll("ab", "xy"))
}
