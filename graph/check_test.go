package graph_test

import (
	"math"
	"slices"
	"testing"

	"pontoon/api"
	"pontoon/graph"
)

// in is inputs from the first ports of these operators.
func in(l ...int) []api.Edge {
	var out []api.Edge
	for _, n := range l {
		out = append(out, api.Edge{From: n})
	}
	return out
}

func of(parts int, ops ...api.Op) api.Graph { return api.Graph{Parts: parts, Ops: ops} }

func source(part int) api.Op { return api.Op{Kind: api.OpSource, Part: part} }

func neg(from int) api.Op { return api.Op{Kind: api.OpMap, Fn: api.FnNeg, In: in(from)} }

func route(count int64, from int) api.Op {
	return api.Op{Kind: api.OpRoute, Arg: count, In: in(from)}
}

func union(in ...api.Edge) api.Op { return api.Op{Kind: api.OpUnion, In: in} }

func sink(from int) api.Op { return api.Op{Kind: api.OpSink, In: in(from)} }

// line is a source, a map, a sink.
func line() api.Graph { return of(1, source(0), neg(0), sink(1)) }

// wide is a graph with all kinds of operators, two partitions, and a route of three ports.
func wide() api.Graph {
	return of(2,
		source(1),
		source(0),
		route(3, 1),
		api.Op{Kind: api.OpKey, Fn: api.FnMod, Arg: 7, In: []api.Edge{{From: 2, Port: 2}}},
		api.Op{Kind: api.OpFilter, Fn: api.FnLess, Arg: -5, In: []api.Edge{{From: 2, Port: 0}}},
		union(api.Edge{From: 4}, api.Edge{From: 0}, api.Edge{From: 2, Port: 1}, api.Edge{From: 3}),
		api.Op{Kind: api.OpWindow, Fn: api.FnLast, Arg: 64, In: in(5)},
		api.Op{Kind: api.OpMap, Fn: api.FnXor, Arg: math.MinInt64, In: in(6)},
		api.Op{Kind: api.OpFold, Fn: api.FnMin, In: in(7)},
		sink(8),
	)
}

// long is a line of that many operators.
func long(count int) api.Graph {
	g := of(1, source(0))
	for len(g.Ops) < count-1 {
		g.Ops = append(g.Ops, neg(len(g.Ops)-1))
	}
	g.Ops = append(g.Ops, sink(len(g.Ops)-1))
	return g
}

func wantCheck(t *testing.T, g api.Graph, n int, e api.Errno) {
	t.Helper()
	if gotN, got := graph.Check(g); gotN != n || got != e {
		t.Errorf("Check of %v = %d, %d; want %d, %d", g, gotN, got, n, e)
	}
	checkAll(t, g)
}

func TestExamples(t *testing.T) {
	wantCheck(t, of(1, source(0), sink(0)), 0, api.OK)
	wantCheck(t, of(1, source(0), neg(1), sink(1)), 1, api.ErrEdge)
	wantCheck(t, of(1, source(0), source(0), union(in(0, 1)...), sink(2)), 0, api.ErrPart)
	wantCheck(t, wide(), 0, api.OK)
}

func TestP51Ports(t *testing.T) {
	for kind, want := range map[int]int{
		least: 0, -1: 0, 0: 0, api.OpSource: 1, api.OpMap: 1, api.OpFilter: 1, api.OpKey: 1, api.OpFold: 1,
		api.OpWindow: 1, api.OpUnion: 1, api.OpSink: 0, 10: 0, 11: 0, most: 0,
	} {
		for _, arg := range []int64{least, -1, 0, 1, 2, 3, 4, 5, most} {
			if got := graph.Ports(api.Op{Kind: kind, Arg: arg, Fn: 77, Part: -3, In: in(0, 0)}); got != want {
				t.Errorf("Ports of kind %d, Arg %d: %d, want %d", kind, arg, got, want)
			}
		}
	}
	for arg, want := range map[int64]int{least: 0, -2: 0, -1: 0, 0: 0, 1: 0, 2: 2, 3: 3, 4: 4, 5: 0, 1<<32 + 2: 0, most: 0} {
		if got := graph.Ports(api.Op{Kind: api.OpRoute, Arg: arg}); got != want {
			t.Errorf("Ports of a route of %d: %d, want %d", arg, got, want)
		}
	}
}

func TestP52Parts(t *testing.T) {
	for _, parts := range []int{least, -1, 0, 5, 6, most} {
		wantCheck(t, of(parts, source(0), sink(0)), 0, api.ErrArg)
		wantCheck(t, of(parts), 0, api.ErrArg)
	}
	wantCheck(t, of(1, source(0), sink(0)), 0, api.OK)
	wantCheck(t, of(2, source(0), source(1), union(in(0, 1)...), sink(2)), 0, api.OK)
	wantCheck(t, of(3, source(2), source(0), source(1), union(in(0, 1, 2)...), sink(3)), 0, api.OK)
	wantCheck(t, of(4, source(2), source(0), source(3), source(1), union(in(0, 1, 3, 2)...), sink(4)), 0, api.OK)
	for parts := 2; parts <= 4; parts++ {
		wantCheck(t, of(parts, source(0), sink(0)), 0, api.ErrPart)
		wantCheck(t, of(parts, source(parts-1), sink(0)), 0, api.ErrPart)
	}
}

func TestP52ManyOperators(t *testing.T) {
	wantCheck(t, long(api.MaxOps-1), 0, api.OK)
	wantCheck(t, long(api.MaxOps), 0, api.OK)
	wantCheck(t, long(api.MaxOps+1), 0, api.ErrLong)
	wantCheck(t, of(1, make([]api.Op, 25)...), 0, api.ErrLong)
	wantCheck(t, of(1, make([]api.Op, 24)...), 0, api.ErrKind)
	wantCheck(t, of(1), 0, api.ErrPart)
}

func TestP52Kinds(t *testing.T) {
	for _, kind := range []int{least, -9, -1, 0, 10, 11, 1 << 32, 1<<32 + 1, most} {
		g := line()
		g.Ops[1].Kind = kind
		wantCheck(t, g, 1, api.ErrKind)
		g = line()
		g.Ops[2].Kind = kind
		wantCheck(t, g, 2, api.ErrKind)
	}
}

// around is a graph in which o stands at the number that is told, with inputs of its own; all else is as it must be.
func around(o api.Op) (api.Graph, int) {
	switch o.Kind {
	case api.OpSource:
		g := of(3, source(0), source(1), source(2), union(in(0, 1, 2)...), sink(3))
		at := max(0, min(o.Part, 2))
		g.Ops[at] = o
		return g, at
	case api.OpUnion:
		o.In = in(1, 0)
		return of(2, source(0), source(1), o, sink(2)), 2
	case api.OpSink:
		o.In = in(0)
		return of(1, source(0), o), 1
	case api.OpRoute:
		o.In = in(0)
		g := of(1, source(0), o)
		open := []api.Edge{}
		for port := range modelPorts(o) {
			open = append(open, api.Edge{From: 1, Port: port})
		}
		g.Ops = append(g.Ops, union(open...), sink(2))
		return g, 1
	}
	o.In = in(0)
	return of(1, source(0), o, sink(1)), 1
}

// TestP52Fields: of each kind each Fn, Arg and Part near to a bound, all else being as it must be.
func TestP52Fields(t *testing.T) {
	fns := []int{least, -1, 0, 1, 2, 3, 4, 5, 6, 1<<32 + 1, most}
	args := []int64{least, -64, -1, 0, 1, 2, 3, 4, 5, 63, 64, 65, 1<<32 + 2, most}
	parts := []int{least, -1, 0, 1, 2, 3, most}
	for kind := api.OpSource; kind <= api.OpSink; kind++ {
		taken := 0
		for _, fn := range fns {
			for _, arg := range args {
				for _, part := range parts {
					o := api.Op{Kind: kind, Part: part, Fn: fn, Arg: arg}
					g, at := around(o)
					want := api.ErrField
					if modelField(o, 3) {
						want, at = api.OK, 0
						taken++
					}
					if n, e := graph.Check(g); n != at || e != want {
						t.Errorf("%v: %d, %d; want %d, %d", o, n, e, at, want)
					}
				}
			}
		}
		// How many of them there are, counted by hand: so the table of spans can't be all wrong.
		if want := []int{3, 3*14 + 1, 3*14 + 1, 1 + 2*10 + 14, 5, 5 * 7, 3, 1, 1}[kind-1]; taken != want {
			t.Errorf("kind %d: %d are taken, want %d", kind, taken, want)
		}
	}
}

// TestP52EachField: a few fields one by one, with nothing but numbers.
func TestP52EachField(t *testing.T) {
	for _, x := range []struct {
		o api.Op
		e api.Errno
	}{
		{api.Op{Kind: api.OpMap, Fn: api.FnNeg}, api.OK},
		{api.Op{Kind: api.OpMap, Fn: api.FnNeg, Arg: 1}, api.ErrField},
		{api.Op{Kind: api.OpMap, Fn: api.FnNeg, Arg: -1}, api.ErrField},
		{api.Op{Kind: api.OpMap, Fn: api.FnXor, Arg: least}, api.OK},
		{api.Op{Kind: api.OpMap, Fn: api.FnAdd, Part: 1}, api.ErrField},
		{api.Op{Kind: api.OpMap, Fn: 5}, api.ErrField},
		{api.Op{Kind: api.OpMap}, api.ErrField},
		{api.Op{Kind: api.OpFilter, Fn: api.FnOdd}, api.OK},
		{api.Op{Kind: api.OpFilter, Fn: api.FnOdd, Arg: 1}, api.ErrField},
		{api.Op{Kind: api.OpFilter, Fn: api.FnMask, Arg: most}, api.OK},
		{api.Op{Kind: api.OpFilter, Fn: 5}, api.ErrField},
		{api.Op{Kind: api.OpKey, Fn: api.FnKeep}, api.OK},
		{api.Op{Kind: api.OpKey, Fn: api.FnKeep, Arg: 1}, api.ErrField},
		{api.Op{Kind: api.OpKey, Fn: api.FnMod}, api.ErrField},
		{api.Op{Kind: api.OpKey, Fn: api.FnMod, Arg: 1}, api.OK},
		{api.Op{Kind: api.OpKey, Fn: api.FnVal, Arg: -1}, api.ErrField},
		{api.Op{Kind: api.OpKey, Fn: api.FnVal, Arg: most}, api.OK},
		{api.Op{Kind: api.OpKey, Fn: api.FnOne}, api.OK},
		{api.Op{Kind: api.OpKey, Fn: api.FnOne, Arg: least}, api.OK},
		{api.Op{Kind: api.OpFold, Fn: api.FnLast}, api.OK},
		{api.Op{Kind: api.OpFold, Fn: api.FnLast, Arg: 1}, api.ErrField},
		{api.Op{Kind: api.OpFold, Fn: 6}, api.ErrField},
		{api.Op{Kind: api.OpWindow, Fn: api.FnSum}, api.ErrField},
		{api.Op{Kind: api.OpWindow, Fn: api.FnSum, Arg: 1}, api.OK},
		{api.Op{Kind: api.OpWindow, Fn: api.FnSum, Arg: api.MaxCount}, api.OK},
		{api.Op{Kind: api.OpWindow, Fn: api.FnSum, Arg: api.MaxCount + 1}, api.ErrField},
		{api.Op{Kind: api.OpRoute, Arg: 1}, api.ErrField},
		{api.Op{Kind: api.OpRoute, Arg: 2}, api.OK},
		{api.Op{Kind: api.OpRoute, Arg: api.MaxPorts}, api.OK},
		{api.Op{Kind: api.OpRoute, Arg: api.MaxPorts + 1}, api.ErrField},
		{api.Op{Kind: api.OpRoute, Arg: 2, Fn: 1}, api.ErrField},
		{api.Op{Kind: api.OpUnion, Arg: 2}, api.ErrField},
		{api.Op{Kind: api.OpUnion, Fn: 1}, api.ErrField},
		{api.Op{Kind: api.OpUnion, Part: 1}, api.ErrField},
		{api.Op{Kind: api.OpSink, Arg: -1}, api.ErrField},
		{api.Op{Kind: api.OpSink, Fn: -1}, api.ErrField},
		{api.Op{Kind: api.OpSink, Part: -1}, api.ErrField},
		{api.Op{Kind: api.OpSource, Part: 2}, api.OK},
		{api.Op{Kind: api.OpSource, Part: 3}, api.ErrField},
		{api.Op{Kind: api.OpSource, Part: -1}, api.ErrField},
		{api.Op{Kind: api.OpSource, Fn: 1}, api.ErrField},
		{api.Op{Kind: api.OpSource, Arg: 1}, api.ErrField},
	} {
		g, at := around(x.o)
		if x.e == api.OK {
			at = 0
		}
		wantCheck(t, g, at, x.e)
	}
}

func TestP52HowManyInputs(t *testing.T) {
	wantCheck(t, of(1, api.Op{Kind: api.OpSource, In: in(0)}, sink(0)), 0, api.ErrEdge)
	wantCheck(t, of(2, source(0), api.Op{Kind: api.OpSource, Part: 1, In: in(0)}, sink(1)), 1, api.ErrEdge)
	for kind := api.OpMap; kind <= api.OpSink; kind++ {
		if kind == api.OpUnion {
			continue
		}
		s := spansOf(kind)[0]
		o := api.Op{Kind: kind, Fn: s.fn, Arg: max(s.from, 0)}
		wantCheck(t, of(1, source(0), o), 1, api.ErrEdge)
		o.In = []api.Edge{}
		wantCheck(t, of(1, source(0), o), 1, api.ErrEdge)
		o.In = in(0, 1)
		wantCheck(t, of(2, source(0), source(1), o), 2, api.ErrEdge)
	}
	four := []api.Op{source(0), source(1), source(2), source(3)}
	for count, want := range []api.Errno{api.ErrEdge, api.ErrEdge, api.OK, api.OK, api.OK} {
		g := of(max(count, 1), slices.Concat(four[:count], []api.Op{union(in(0, 1, 2, 3)[:count]...), sink(count)})...)
		at := count
		if want == api.OK {
			at = 0
		}
		wantCheck(t, g, at, want)
	}
	five := slices.Concat(four, []api.Op{route(2, 3), union(append(in(0, 1, 2, 4), api.Edge{From: 4, Port: 1})...), sink(5)})
	wantCheck(t, of(4, five...), 5, api.ErrEdge)
}

func TestP52WhereInputsComeFrom(t *testing.T) {
	for _, from := range []int{least, -1, 1, 2, 3, 1 << 32, most} {
		g := line()
		g.Ops[1].In[0].From = from
		wantCheck(t, g, 1, api.ErrEdge)
	}
	for _, from := range []int{least, -1, 2, 3, 4, most} {
		wantCheck(t, of(2, source(0), source(1), union(in(0, from)...), sink(2)), 2, api.ErrEdge)
		wantCheck(t, of(2, source(0), source(1), union(in(from, 1)...), sink(2)), 2, api.ErrEdge)
	}
	for _, port := range []int{least, -1, 1, 2, 4, 1 << 32, most} {
		g := line()
		g.Ops[1].In[0].Port = port
		wantCheck(t, g, 1, api.ErrEdge)
	}
	for arg := int64(2); arg <= 4; arg++ {
		for _, port := range []int{least, -1, int(arg), int(arg) + 1, most} {
			g, _ := around(api.Op{Kind: api.OpRoute, Arg: arg})
			g.Ops[2].In[1].Port = port
			wantCheck(t, g, 2, api.ErrEdge)
		}
	}
	// A sink has no port.
	wantCheck(t, of(1, source(0), sink(0), neg(1)), 2, api.ErrEdge)
	wantCheck(t, of(1, source(0), sink(0), sink(1)), 2, api.ErrEdge)
}

func TestP52Taken(t *testing.T) {
	wantCheck(t, of(1, source(0), union(in(0, 0)...), sink(1)), 1, api.ErrTaken)
	wantCheck(t, of(1, source(0), neg(0), neg(0), union(in(1, 2)...), sink(3)), 2, api.ErrTaken)
	wantCheck(t, of(1, source(0), neg(0), neg(1), neg(0), union(in(2, 3)...), sink(4)), 3, api.ErrTaken)
	second := []api.Edge{{From: 1, Port: 1}, {From: 1, Port: 0}, {From: 1, Port: 1}}
	wantCheck(t, of(1, source(0), route(3, 0), union(second...), sink(2)), 2, api.ErrTaken)
	// Ports that have one number, but of two operators; two ports of one.
	wantCheck(t, of(2, source(0), source(1), union(in(0, 1)...), sink(2)), 0, api.OK)
	wantCheck(t, of(1, source(0), route(2, 0), union(second[:2]...), sink(2)), 0, api.OK)
}

func TestP52Loose(t *testing.T) {
	wantCheck(t, of(1, source(0)), 0, api.ErrLoose)
	wantCheck(t, of(1, source(0), neg(0)), 1, api.ErrLoose)
	wantCheck(t, of(2, source(0), source(1), sink(0)), 1, api.ErrLoose)
	wantCheck(t, of(2, source(0), source(1), sink(1)), 0, api.ErrLoose)
	for arg := int64(2); arg <= 4; arg++ {
		for port := range int(arg) {
			g := of(1, source(0), route(arg, 0), api.Op{Kind: api.OpSink, In: []api.Edge{{From: 1, Port: port}}})
			wantCheck(t, g, 1, api.ErrLoose)
		}
	}
	// The first one of several.
	wantCheck(t, of(4, source(0), source(1), source(2), source(3), sink(0)), 1, api.ErrLoose)
}

func TestP52Ends(t *testing.T) {
	wantCheck(t, of(1), 0, api.ErrPart)
	wantCheck(t, of(2, source(1), sink(0)), 0, api.ErrPart)
	wantCheck(t, of(3, source(0), source(2), union(in(0, 1)...), sink(2)), 0, api.ErrPart)
	wantCheck(t, of(2, source(0), source(1), source(1), union(in(0, 1, 2)...), sink(3)), 0, api.ErrPart)
	wantCheck(t, of(2, source(0), source(1), sink(0), sink(1)), 0, api.ErrSink)
	wantCheck(t, of(1, source(0), route(2, 0), sink(1), api.Op{Kind: api.OpSink, In: []api.Edge{{From: 1, Port: 1}}}), 0, api.ErrSink)
}

// TestP52WhichFault: each graph has the fault that is told, and one that comes behind it.
func TestP52WhichFault(t *testing.T) {
	none := api.Op{}
	badField := api.Op{Kind: api.OpMap, Fn: 9, In: in(0)}
	for _, x := range []struct {
		why string
		g   api.Graph
		n   int
		e   api.Errno
	}{
		{"Parts ahead of many", of(0, make([]api.Op, 25)...), 0, api.ErrArg},
		{"Parts ahead of operators", of(5, none), 0, api.ErrArg},
		{"many ahead of operators", of(1, slices.Repeat([]api.Op{none}, 25)...), 0, api.ErrLong},
		{"Kind ahead of fields and inputs", of(1, source(0), api.Op{Kind: 10, Part: 3, Fn: 9, In: in(7, 7)}), 1, api.ErrKind},
		{"fields ahead of inputs", of(1, source(0), api.Op{Kind: api.OpMap, Fn: 9, In: in(1)}), 1, api.ErrField},
		{"fields ahead of how many", of(1, api.Op{Kind: api.OpSource, Part: 1, In: in(0)}), 0, api.ErrField},
		{"how many ahead of taken", of(1, source(0), union(in(0, 0, 0, 0, 0)...)), 1, api.ErrEdge},
		{"inputs ahead of taken", of(1, source(0), union(append(in(0, 0), api.Edge{From: 0, Port: 1})...)), 1, api.ErrEdge},
		{"taken ahead of the next one's kind", of(1, source(0), union(in(0, 0)...), none), 1, api.ErrTaken},
		{"inputs ahead of the next one's fields", of(1, source(0), neg(1), badField), 1, api.ErrEdge},
		{"fields ahead of the next one's kind", of(1, source(0), badField, none), 1, api.ErrField},
		{"kind ahead of the next one's fields", of(1, source(0), none, badField), 1, api.ErrKind},
		{"fields of the last one ahead of loose", of(1, source(0), source(0), badField), 2, api.ErrField},
		{"kind of the last one ahead of ends", of(2, source(0), sink(0), none), 2, api.ErrKind},
		{"taken ahead of loose", of(2, source(1), source(0), sink(1), sink(1)), 3, api.ErrTaken},
		{"loose ahead of partitions", of(2, source(0), source(0), sink(0)), 1, api.ErrLoose},
		{"loose ahead of sinks", of(2, source(0), source(1)), 0, api.ErrLoose},
		{"partitions ahead of sinks", of(1, source(0), source(0), sink(0), sink(1)), 0, api.ErrPart},
		{"no source, no sink", of(4), 0, api.ErrPart},
	} {
		if n, e := graph.Check(x.g); n != x.n || e != x.e {
			t.Errorf("%s: %d, %d; want %d, %d", x.why, n, e, x.n, x.e)
		}
		checkAll(t, x.g)
	}
}
