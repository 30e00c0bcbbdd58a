package graph_test

import (
	"bytes"
	"reflect"
	"slices"
	"testing"

	"pontoon/api"
	"pontoon/graph"
)

func TestP53To(t *testing.T) {
	g := wide()
	for _, x := range []struct {
		from, port, n, i int
		ok               bool
	}{
		{0, 0, 5, 1, true},
		{1, 0, 2, 0, true},
		{2, 0, 4, 0, true},
		{2, 1, 5, 2, true},
		{2, 2, 3, 0, true},
		{3, 0, 5, 3, true},
		{4, 0, 5, 0, true},
		{8, 0, 9, 0, true},
		{9, 0, 0, 0, false},
		{2, 3, 0, 0, false},
		{0, 1, 0, 0, false},
		{0, -1, 0, 0, false},
		{-1, 0, 0, 0, false},
		{10, 0, 0, 0, false},
		{most, most, 0, 0, false},
		{least, least, 0, 0, false},
	} {
		if n, i, ok := graph.To(g, x.from, x.port); n != x.n || i != x.i || ok != x.ok {
			t.Errorf("To(%d, %d) = %d, %d, %v; want %v", x.from, x.port, n, i, ok, x)
		}
	}
}

// TestP53RefusedGraphs: what is told of graphs that Check refuses: the first one, wherever it stands.
func TestP53RefusedGraphs(t *testing.T) {
	g := of(-7,
		api.Op{Kind: 77, In: []api.Edge{{From: 3, Port: 9}, {From: 1}, {From: 1}}},
		sink(1),
		source(most),
		api.Op{Kind: api.OpSource, Part: most, In: in(1, least)},
		sink(3),
		source(-1),
	)
	if n, i, ok := graph.To(g, 1, 0); n != 0 || i != 1 || !ok {
		t.Errorf("To(1, 0) = %d, %d, %v", n, i, ok)
	}
	if n, i, ok := graph.To(g, 3, 9); n != 0 || i != 0 || !ok {
		t.Errorf("To(3, 9) = %d, %d, %v", n, i, ok)
	}
	if n, i, ok := graph.To(g, least, 0); n != 3 || i != 1 || !ok {
		t.Errorf("To(least, 0) = %d, %d, %v", n, i, ok)
	}
	if n, ok := graph.Source(g, most); n != 2 || !ok {
		t.Errorf("Source(most) = %d, %v", n, ok)
	}
	if n, ok := graph.Source(g, -1); n != 5 || !ok {
		t.Errorf("Source(-1) = %d, %v", n, ok)
	}
	if n, ok := graph.Source(g, 0); n != 0 || ok {
		t.Errorf("Source(0) = %d, %v", n, ok)
	}
	if n, ok := graph.Sink(g); n != 1 || !ok {
		t.Errorf("Sink = %d, %v", n, ok)
	}
	checkAll(t, g)
	checkAll(t, api.Graph{})
}

func TestP53SourceAndSink(t *testing.T) {
	g := wide()
	for part, want := range map[int]int{0: 1, 1: 0} {
		if n, ok := graph.Source(g, part); n != want || !ok {
			t.Errorf("Source(%d) = %d, %v", part, n, ok)
		}
	}
	for _, part := range []int{least, -1, 2, 3, most} {
		if n, ok := graph.Source(g, part); n != 0 || ok {
			t.Errorf("Source(%d) = %d, %v", part, n, ok)
		}
	}
	if n, ok := graph.Sink(g); n != 9 || !ok {
		t.Errorf("Sink = %d, %v", n, ok)
	}
	if n, ok := graph.Sink(of(1, source(0))); n != 0 || ok {
		t.Errorf("Sink of none = %d, %v", n, ok)
	}
	// An operator of another kind is no source, though its Part is that.
	if n, ok := graph.Source(of(1, sink(0)), 0); n != 0 || ok {
		t.Errorf("Source of none = %d, %v", n, ok)
	}
}

func TestP53Edges(t *testing.T) {
	want := []told{
		{2, api.Edge{From: 1}},
		{3, api.Edge{From: 2, Port: 2}},
		{4, api.Edge{From: 2}},
		{5, api.Edge{From: 4}},
		{5, api.Edge{From: 0}},
		{5, api.Edge{From: 2, Port: 1}},
		{5, api.Edge{From: 3}},
		{6, api.Edge{From: 5}},
		{7, api.Edge{From: 6}},
		{8, api.Edge{From: 7}},
		{9, api.Edge{From: 8}},
	}
	if got := collect(wide()); !slices.Equal(got, want) {
		t.Errorf("got %v, want %v", got, want)
	}
	for n, e := range graph.Edges(api.Graph{}) {
		t.Error("of no operators:", n, e)
	}
}

func TestP53EdgesLeftEarlyAndAgain(t *testing.T) {
	seq, want := graph.Edges(wide()), collect(wide())
	for stop := range len(want) + 1 {
		var got []told
		for n, e := range seq {
			if len(got) == stop {
				break
			}
			got = append(got, told{n, e})
		}
		if !slices.Equal(got, want[:stop]) {
			t.Errorf("left behind %d: %v", stop, got)
		}
	}
}

func TestR3EdgesTellWhatWasThere(t *testing.T) {
	g := wide()
	seq, want := graph.Edges(g), collect(g)
	g.Ops[5].In[1].From = 77
	g.Ops[2] = api.Op{}
	g.Ops[9].In = nil
	for range 2 {
		var got []told
		for n, e := range seq {
			got = append(got, told{n, e})
			g.Ops[8].In[0].Port++
		}
		if !slices.Equal(got, want) {
			t.Errorf("got %v, want %v", got, want)
		}
	}
}

// roomy is g with room behind each list, in which something stands.
func roomy(g api.Graph) api.Graph {
	g = copyOf(g)
	for n := range g.Ops {
		size := len(g.Ops[n].In)
		g.Ops[n].In = append(g.Ops[n].In, api.Edge{From: 91, Port: 92})[:size]
	}
	size := len(g.Ops)
	g.Ops = append(g.Ops, api.Op{Kind: 93, In: in(94)})[:size]
	return g
}

// whole is g with all that stands behind its lists.
func whole(g api.Graph) api.Graph {
	g = api.Graph{Parts: g.Parts, Ops: slices.Clone(g.Ops[:len(g.Ops)+1])}
	for n := range g.Ops[:len(g.Ops)-1] {
		size := len(g.Ops[n].In)
		g.Ops[n].In = slices.Clone(g.Ops[n].In[:size+1])
	}
	return g
}

func TestR3WhatIsHandedIn(t *testing.T) {
	for _, g := range []api.Graph{wide(), line(), of(1, source(0), union(in(0, 0)...), sink(1)), of(9, source(4))} {
		g = roomy(g)
		before := whole(g)
		checkAll(t, g)
		x := graph.Clone(g)
		for n := range x.Ops {
			x.Ops[n].In = append(x.Ops[n].In, api.Edge{From: 5})
		}
		x.Ops = append(x.Ops, sink(4))
		if after := whole(g); !reflect.DeepEqual(after, before) {
			t.Errorf("it was %v, and is %v", before, after)
		}
	}
	b := bytesOf(wide())
	before := slices.Clone(b)
	x, e := graph.Parse(b)
	if !bytes.Equal(b, before) || e != api.OK {
		t.Errorf("Parse wrote to its bytes, or tells %d", e)
	}
	clear(b)
	if !graph.Same(x, wide()) {
		t.Errorf("Parse keeps its bytes: %v", x)
	}
}

func TestR3WhatIsAnswered(t *testing.T) {
	g := wide()
	b, _ := graph.Bytes(g)
	clear(b)
	if c, _ := graph.Bytes(g); !bytes.Equal(c, bytesOf(g)) {
		t.Errorf("Bytes are %v", c)
	}
	form := bytesOf(g)
	x, _ := graph.Parse(form)
	for n := range x.Ops {
		x.Ops[n].In = append(x.Ops[n].In, api.Edge{From: 5})
		x.Ops[n].In[0].From = 6
	}
	if y, _ := graph.Parse(form); !graph.Same(y, g) {
		t.Errorf("Parse is %v", y)
	}
}

func TestP54Clone(t *testing.T) {
	g := wide()
	x := graph.Clone(g)
	if !reflect.DeepEqual(x, g) {
		t.Errorf("Clone is %v", x)
	}
	for n := range x.Ops {
		for i := range x.Ops[n].In {
			x.Ops[n].In[i] = api.Edge{From: 50, Port: 51}
		}
		x.Ops[n].Arg = 52
	}
	if !reflect.DeepEqual(g, wide()) {
		t.Errorf("a change of the clone changed the graph: %v", g)
	}
	x = graph.Clone(g)
	for n := range g.Ops {
		for i := range g.Ops[n].In {
			g.Ops[n].In[i] = api.Edge{From: 50, Port: 51}
		}
		g.Ops[n].Arg = 52
	}
	if !reflect.DeepEqual(x, wide()) {
		t.Errorf("a change of the graph changed the clone: %v", x)
	}
	// No two lists of one answer share memory: not even where the graph's own ones do.
	shared := in(0)
	x = graph.Clone(of(1, source(0), api.Op{Kind: api.OpSink, In: shared}, api.Op{Kind: api.OpSink, In: shared}))
	x.Ops[1].In[0].From = 5
	if x.Ops[2].In[0].From != 0 {
		t.Errorf("two lists of a clone share memory: %v", x)
	}
	for _, g := range []api.Graph{{}, {Parts: 3}, {Parts: -1, Ops: []api.Op{}}, {Ops: []api.Op{{}, {In: []api.Edge{}}}}} {
		if x := graph.Clone(g); !graph.Same(x, g) || x.Parts != g.Parts || len(x.Ops) != len(g.Ops) {
			t.Errorf("Clone of %v is %v", g, x)
		}
	}
}

func TestP54SameEachField(t *testing.T) {
	for i, turn := range []func(g *api.Graph){
		func(g *api.Graph) { g.Parts++ },
		func(g *api.Graph) { g.Ops[3].Kind++ },
		func(g *api.Graph) { g.Ops[3].Part++ },
		func(g *api.Graph) { g.Ops[3].Fn++ },
		func(g *api.Graph) { g.Ops[3].Arg++ },
		func(g *api.Graph) { g.Ops[5].In[2].From++ },
		func(g *api.Graph) { g.Ops[5].In[2].Port++ },
		func(g *api.Graph) { g.Ops[5].In = g.Ops[5].In[:3] },
		func(g *api.Graph) { g.Ops[5].In = append(g.Ops[5].In, api.Edge{}) },
		func(g *api.Graph) { slices.Reverse(g.Ops[5].In) },
		func(g *api.Graph) { g.Ops[9].In = nil },
		func(g *api.Graph) { g.Ops = g.Ops[:9] },
		func(g *api.Graph) { g.Ops = append(g.Ops, api.Op{}) },
		func(g *api.Graph) { g.Ops = nil },
		func(g *api.Graph) { g.Ops[0], g.Ops[1] = g.Ops[1], g.Ops[0] },
	} {
		g := wide()
		turn(&g)
		if graph.Same(g, wide()) || graph.Same(wide(), g) {
			t.Errorf("change %d: the same", i)
		}
		if !graph.Same(g, copyOf(g)) {
			t.Errorf("change %d: not like itself", i)
		}
	}
}

func TestR4EmptyAndNil(t *testing.T) {
	if !graph.Same(api.Graph{}, api.Graph{Ops: []api.Op{}}) || !graph.Same(api.Graph{Ops: []api.Op{}}, api.Graph{}) {
		t.Error("no operators")
	}
	a, b := wide(), wide()
	a.Ops[0].In, b.Ops[0].In = nil, []api.Edge{}
	if !graph.Same(a, b) || !graph.Same(b, a) {
		t.Error("no inputs")
	}
	x, e := graph.Bytes(a)
	y, f := graph.Bytes(b)
	if e != api.OK || f != api.OK || !bytes.Equal(x, y) {
		t.Error("Bytes:", e, f)
	}
	wantCheck(t, b, 0, api.OK)
	wantCheck(t, of(1, []api.Op{}...), 0, api.ErrPart)
	for _, b := range [][]byte{nil, {}} {
		if g, e := graph.Parse(b); e != api.ErrShort || g.Ops != nil || g.Parts != 0 {
			t.Error("Parse:", g, e)
		}
	}
}

// TestBoundGreatGraphs: graphs of any length may be handed in; time that grows with the square of it would not end here.
func TestBoundGreatGraphs(t *testing.T) {
	const many = 1 << 18
	g := api.Graph{Parts: 1, Ops: make([]api.Op, many)}
	for n := range g.Ops {
		g.Ops[n] = neg(n)
	}
	g.Ops[many-1].In = make([]api.Edge, many)
	last := api.Edge{From: most}
	g.Ops[many-1].In[many-1] = last
	if n, i, ok := graph.To(g, most, 0); n != many-1 || i != many-1 || !ok {
		t.Error("To:", n, i, ok)
	}
	if _, ok := graph.Source(g, 0); ok {
		t.Error("Source")
	}
	if _, ok := graph.Sink(g); ok {
		t.Error("Sink")
	}
	told := 0
	for range graph.Edges(g) {
		told++
	}
	if told != 2*many-1 || !graph.Same(graph.Clone(g), g) {
		t.Error("Edges, Clone or Same:", told)
	}
	if n, e := graph.Check(g); n != 0 || e != api.ErrLong {
		t.Error("Check:", n, e)
	}
	if n, e := graph.Check(of(1, source(0), g.Ops[many-1])); n != 1 || e != api.ErrEdge {
		t.Error("Check of many inputs:", n, e)
	}
}
