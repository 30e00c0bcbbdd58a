package manifest_test

import (
	"math/rand"
	"slices"
	"sort"
	"testing"

	"pontoon/api"
	"pontoon/flow"
	"pontoon/graph"
	"pontoon/snap"
)

func in(l ...int) []api.Edge {
	var edges []api.Edge
	for _, n := range l {
		edges = append(edges, api.Edge{From: n})
	}
	return edges
}

func of(parts int, ops ...api.Op) api.Graph {
	return api.Graph{Parts: parts, Ops: ops}
}

func source(part int) api.Op {
	return api.Op{Kind: api.OpSource, Part: part}
}

func sinkOf(from int) api.Op {
	return api.Op{Kind: api.OpSink, In: in(from)}
}

// short is a source and a sink.
func short() api.Graph {
	return of(1, source(0), sinkOf(0))
}

// folded is a source, a fold and a sink.
func folded(fn int) api.Graph {
	return of(1, source(0), api.Op{Kind: api.OpFold, Fn: fn, In: in(0)}, sinkOf(1))
}

// wide has operators of all Kinds, two partitions, and a route of three ports; its operator 5 is a union of four, 6 a window of three, 8 a fold.
func wide() api.Graph {
	return of(2,
		source(1),
		source(0),
		api.Op{Kind: api.OpRoute, Arg: 3, In: in(1)},
		api.Op{Kind: api.OpKey, Fn: api.FnMod, Arg: 2, In: []api.Edge{{From: 2, Port: 2}}},
		api.Op{Kind: api.OpFilter, Fn: api.FnLess, Arg: 90, In: []api.Edge{{From: 2, Port: 0}}},
		api.Op{Kind: api.OpUnion, In: []api.Edge{{From: 4}, {From: 0}, {From: 2, Port: 1}, {From: 3}}},
		api.Op{Kind: api.OpWindow, Fn: api.FnSum, Arg: 3, In: in(5)},
		api.Op{Kind: api.OpMap, Fn: api.FnXor, Arg: 1, In: in(6)},
		api.Op{Kind: api.OpFold, Fn: api.FnMin, In: in(7)},
		sinkOf(8),
	)
}

// four is a union of four sources.
func four() api.Graph {
	return of(4, source(3), source(2), source(1), source(0), api.Op{Kind: api.OpUnion, In: in(0, 1, 2, 3)}, sinkOf(4))
}

// nothing is the state of a flow that has seen nothing yet.
func nothing(g api.Graph) api.FlowState {
	s := api.FlowState{Vector: make([]int64, max(g.Parts, 0))}
	for _, o := range g.Ops {
		kept := api.TaskState{}
		if o.Kind == api.OpUnion {
			kept.Buffers = make([][]api.Record, len(o.In))
		}
		s.Tasks = append(s.Tasks, kept)
	}
	return s
}

// at is nothing at that barrier, behind out records.
func at(g api.Graph, id, out int64) api.FlowState {
	s := nothing(g)
	s.Id, s.Out = id, out
	return s
}

// full is a state of wide with something in each list that may have anything, and numbers of many sizes.
func full() api.FlowState {
	s := nothing(wide())
	s.Id, s.Vector, s.Out = end, []int64{0, 300}, 70_000
	s.Tasks[5].State.Turn = 3
	s.Tasks[5].Buffers = [][]api.Record{{rec(1, -1), rec(most, least)}, nil, {rec(64, -65), rec(0, 0), rec(0, 0)}, {rec(least, most)}}
	s.Tasks[6].State.Keys = []api.KeyState{{Key: least, Count: 1, Acc: 63}, {Key: -64, Count: 2, Acc: most}}
	s.Tasks[8].State.Keys = []api.KeyState{{Key: -1, Count: 1, Acc: least}, {Key: 0, Count: 8192, Acc: 0}, {Key: most, Count: end, Acc: -8193}}
	return s
}

// stateForm is the form of s, as chapter 12 tells it.
func stateForm(s api.FlowState) []byte {
	l := append([]int64{s.Id, int64(len(s.Vector))}, s.Vector...)
	l = append(l, s.Out, int64(len(s.Tasks)))
	for _, k := range s.Tasks {
		l = append(l, int64(k.State.Turn), int64(len(k.State.Keys)))
		for _, x := range k.State.Keys {
			l = append(l, x.Key, x.Count, x.Acc)
		}
		l = append(l, int64(len(k.Buffers)))
		for _, records := range k.Buffers {
			l = append(l, int64(len(records)))
			for _, r := range records {
				l = append(l, r.Key, r.Val)
			}
		}
	}
	return formOf(l...)
}

// keysOf is a state of a fold with so many keys, at the barrier 1.
func keysOf(n int) api.FlowState {
	s := at(folded(api.FnSum), 1, 0)
	for key := range int64(n) {
		s.Tasks[1].State.Keys = append(s.Tasks[1].State.Keys, api.KeyState{Key: key, Count: 1})
	}
	return s
}

// keysLong is such a state whose form has so many bytes.
func keysLong(t *testing.T, size int) api.FlowState {
	s := keysOf(sort.Search(size, func(n int) bool { return len(stateForm(keysOf(n))) > size }) - 1)
	// What is missing is less than a key has bytes: one number has room for it.
	if more := size - len(stateForm(s)); more > 0 {
		s.Tasks[1].State.Keys[0].Acc = 1 << (7*more - 1)
	}
	if got := len(stateForm(s)); got != size {
		t.Fatalf("the form has %d bytes; want %d", got, size)
	}
	return s
}

// badGraphs are graphs that graph.Check refuses, by its errors.
func badGraphs(t *testing.T) map[api.Errno][]api.Graph {
	long := of(1, source(0))
	for n := range api.MaxOps - 1 {
		long.Ops = append(long.Ops, api.Op{Kind: api.OpMap, Fn: api.FnNeg, In: in(n)})
	}
	long.Ops = append(long.Ops, sinkOf(api.MaxOps-1))
	bad := map[api.Errno][]api.Graph{
		api.ErrArg:   {{}, of(0, source(0), sinkOf(0)), of(-1, source(0), sinkOf(0)), of(api.MaxParts+1, source(0), sinkOf(0))},
		api.ErrLong:  {long},
		api.ErrKind:  {of(1, source(0), api.Op{Kind: 10, In: in(0)}, sinkOf(1)), of(1, api.Op{})},
		api.ErrField: {of(1, source(1), sinkOf(0)), of(1, source(0), api.Op{Kind: api.OpRoute, Arg: 5, In: in(0)}, sinkOf(1))},
		api.ErrEdge:  {of(1, source(0), sinkOf(1)), of(1, source(0), api.Op{Kind: api.OpUnion, In: in(0)}, sinkOf(1))},
		api.ErrTaken: {of(1, source(0), api.Op{Kind: api.OpUnion, In: in(0, 0)}, sinkOf(1))},
		api.ErrLoose: {of(1, source(0)), of(2, source(0), source(1), sinkOf(0))},
		api.ErrPart:  {of(2, source(0), sinkOf(0)), of(1)},
		api.ErrSink:  {of(2, source(0), source(1), sinkOf(0), sinkOf(1))},
	}
	for want, l := range bad {
		for _, g := range l {
			if _, e := graph.Check(g); e != want {
				t.Fatalf("graph.Check(%v) = %d; want %d", g, e, want)
			}
		}
	}
	return bad
}

// badStates are states that are none of wide.
func badStates() []api.FlowState {
	var l []api.FlowState
	but := func(change func(s *api.FlowState)) {
		s := full()
		change(&s)
		l = append(l, s)
	}
	for _, n := range []int64{-1, end + 1, most, least} {
		but(func(s *api.FlowState) { s.Id = n })
		but(func(s *api.FlowState) { s.Out = n })
		but(func(s *api.FlowState) { s.Vector[0] = n })
		but(func(s *api.FlowState) { s.Vector[1] = n })
	}
	but(func(s *api.FlowState) { s.Vector = nil })
	but(func(s *api.FlowState) { s.Vector = s.Vector[:1] })
	but(func(s *api.FlowState) { s.Vector = append(s.Vector, 0) })
	but(func(s *api.FlowState) { s.Tasks = nil })
	but(func(s *api.FlowState) { s.Tasks = s.Tasks[:9] })
	but(func(s *api.FlowState) { s.Tasks[0].State.Turn = 1 })
	but(func(s *api.FlowState) { s.Tasks[5].State.Turn = 4 })
	but(func(s *api.FlowState) { s.Tasks[5].Buffers = nil })
	but(func(s *api.FlowState) { s.Tasks[6].State.Keys[1].Count = 3 })
	but(func(s *api.FlowState) { slices.Reverse(s.Tasks[8].State.Keys) })
	return append(l, api.FlowState{}, at(short(), 5, 5), keysOf(3))
}

// grown is a graph of chance that graph.Check takes: ports that lead nowhere yet are taken, until all have come to the sink.
func grown(r *rand.Rand) api.Graph {
	g := api.Graph{Parts: 1 + r.Intn(api.MaxParts)}
	var open []api.Edge
	add := func(o api.Op) {
		for port := range graph.Ports(o) {
			open = append(open, api.Edge{From: len(g.Ops), Port: port})
		}
		g.Ops = append(g.Ops, o)
	}
	take := func(n int) []api.Edge {
		r.Shuffle(len(open), func(i, j int) { open[i], open[j] = open[j], open[i] })
		edges := slices.Clone(open[:n])
		open = open[n:]
		return edges
	}
	for part := range g.Parts {
		add(source(part))
	}
	for range r.Intn(8) {
		switch r.Intn(6) {
		case 0:
			add(api.Op{Kind: api.OpMap, Fn: api.FnAdd, Arg: r.Int63n(9), In: take(1)})
		case 1:
			add(api.Op{Kind: api.OpFilter, Fn: api.FnMask, Arg: 1 + r.Int63n(15), In: take(1)})
		case 2:
			add(api.Op{Kind: api.OpKey, Fn: api.FnMod, Arg: 1 + r.Int63n(9), In: take(1)})
		case 3:
			add(api.Op{Kind: api.OpFold, Fn: 1 + r.Intn(5), In: take(1)})
		case 4:
			add(api.Op{Kind: api.OpWindow, Fn: 1 + r.Intn(5), Arg: 1 + r.Int63n(5), In: take(1)})
		case 5:
			add(api.Op{Kind: api.OpRoute, Arg: 2, In: take(1)})
		}
	}
	for len(open) > 1 {
		add(api.Op{Kind: api.OpUnion, In: take(min(len(open), api.MaxPorts))})
	}
	add(api.Op{Kind: api.OpSink, In: take(1)})
	return g
}

// lived has a flow of g do something, and is what it tells of its last barrier, and all that came out ahead of that.
func lived(t *testing.T, r *rand.Rand, g api.Graph) (api.FlowState, []api.Record) {
	f, e := flow.New(g, 1+r.Intn(5))
	if e != api.OK {
		t.Fatalf("flow.New(%v): %d", g, e)
	}
	id := int64(0)
	for range 1 + r.Intn(3) {
		for part := range g.Parts {
			for range r.Intn(40) {
				f.Feed(part, rec(r.Int63n(20)-5, r.Int63()>>r.Intn(63)))
			}
		}
		id += 1 + r.Int63n(100)
		f.Barrier(id)
		f.Drain()
	}
	s, ok := f.Snap()
	if !ok {
		t.Fatal("no snap")
	}
	var out []api.Record
	for _, x := range f.Out(0) {
		out = append(out, x)
	}
	return s, out
}

// copyState is s in memory of its own.
func copyState(s api.FlowState) api.FlowState {
	c := snap.Clone(s)
	if !slices.Equal(stateForm(c), stateForm(s)) {
		panic("snap.Clone is another one")
	}
	return c
}
