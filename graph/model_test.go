package graph_test

import (
	"bytes"
	"math"
	"math/rand"
	"reflect"
	"slices"
	"testing"

	"pontoon/api"
	"pontoon/graph"
)

const (
	least = math.MinInt64
	most  = math.MaxInt64
)

// span is a function that a kind takes, and from where to where its Arg may be.
type span struct {
	fn       int
	from, to int64
}

// spansOf is what the chapter tells of a kind's Fn and Arg.
func spansOf(kind int) []span {
	switch kind {
	case api.OpMap, api.OpFilter:
		return []span{{1, least, most}, {2, least, most}, {3, 0, 0}, {4, least, most}}
	case api.OpKey:
		return []span{{1, 0, 0}, {2, 1, most}, {3, 1, most}, {4, least, most}}
	case api.OpFold:
		return []span{{1, 0, 0}, {2, 0, 0}, {3, 0, 0}, {4, 0, 0}, {5, 0, 0}}
	case api.OpWindow:
		return []span{{1, 1, 64}, {2, 1, 64}, {3, 1, 64}, {4, 1, 64}, {5, 1, 64}}
	case api.OpRoute:
		return []span{{0, 2, 4}}
	}
	return []span{{0, 0, 0}}
}

func modelField(o api.Op, parts int) bool {
	if o.Part < 0 || o.Kind == api.OpSource && o.Part >= parts || o.Kind != api.OpSource && o.Part > 0 {
		return false
	}
	return slices.ContainsFunc(spansOf(o.Kind), func(s span) bool { return o.Fn == s.fn && o.Arg >= s.from && o.Arg <= s.to })
}

func modelPorts(o api.Op) []int {
	switch o.Kind {
	case 1, 2, 3, 4, 5, 6, 8:
		return []int{0}
	case 7:
		switch o.Arg {
		case 2:
			return []int{0, 1}
		case 3:
			return []int{0, 1, 2}
		case 4:
			return []int{0, 1, 2, 3}
		}
	}
	return nil
}

func modelEdges(g api.Graph, n int) bool {
	counts := []int{1}
	switch g.Ops[n].Kind {
	case api.OpSource:
		counts = []int{0}
	case api.OpUnion:
		counts = []int{2, 3, 4}
	}
	if !slices.Contains(counts, len(g.Ops[n].In)) {
		return false
	}
	for _, e := range g.Ops[n].In {
		if e.From < 0 || e.From >= n || !slices.Contains(modelPorts(g.Ops[e.From]), e.Port) {
			return false
		}
	}
	return true
}

// allInputs is the inputs of some operators, one behind the other.
func allInputs(ops []api.Op) []api.Edge {
	var out []api.Edge
	for _, o := range ops {
		out = append(out, o.In...)
	}
	return out
}

func twice(l []api.Edge) bool {
	for i, e := range l {
		if slices.Contains(l[:i], e) {
			return true
		}
	}
	return false
}

func count(g api.Graph, kind, part int) int {
	out := 0
	for _, o := range g.Ops {
		if o.Kind == kind && o.Part == part {
			out++
		}
	}
	return out
}

// modelCheck does what P5.2 tells, word by word.
func modelCheck(g api.Graph) (int, api.Errno) {
	if g.Parts < 1 || g.Parts > 4 {
		return 0, api.ErrArg
	}
	if len(g.Ops) > 24 {
		return 0, api.ErrLong
	}
	for n, o := range g.Ops {
		if o.Kind < 1 || o.Kind > 9 {
			return n, api.ErrKind
		}
		if !modelField(o, g.Parts) {
			return n, api.ErrField
		}
		if !modelEdges(g, n) {
			return n, api.ErrEdge
		}
		if twice(allInputs(g.Ops[:n+1])) {
			return n, api.ErrTaken
		}
	}
	for n, o := range g.Ops {
		for _, port := range modelPorts(o) {
			if !slices.Contains(allInputs(g.Ops), api.Edge{From: n, Port: port}) {
				return n, api.ErrLoose
			}
		}
	}
	for part := range g.Parts {
		if count(g, api.OpSource, part) != 1 {
			return 0, api.ErrPart
		}
	}
	if count(g, api.OpSink, 0) != 1 {
		return 0, api.ErrSink
	}
	return 0, api.OK
}

// formOf is the form of some numbers, as chapter 1 tells it.
func formOf(l ...int64) []byte {
	var out []byte
	for _, n := range l {
		v := uint64(n) * 2
		if n < 0 {
			v = uint64(-(n+1))*2 + 1
		}
		form := []byte{byte(v % 128)}
		for v /= 128; v > 0; v /= 128 {
			form = append([]byte{byte(v%128) + 128}, form...)
		}
		out = append(out, form...)
	}
	return out
}

// bytesOf is what P5.4 tells of Bytes, of graphs that Check refuses, too.
func bytesOf(g api.Graph) []byte {
	out := formOf(int64(g.Parts), int64(len(g.Ops)))
	for _, o := range g.Ops {
		out = append(out, formOf(int64(o.Kind), int64(o.Part), int64(o.Fn), o.Arg, int64(len(o.In)))...)
		for _, e := range o.In {
			out = append(out, formOf(int64(e.From), int64(e.Port))...)
		}
	}
	return out
}

// told is what Edges tells.
type told struct {
	n int
	e api.Edge
}

func edgesOf(g api.Graph) []told {
	var out []told
	for n, o := range g.Ops {
		for _, e := range o.In {
			out = append(out, told{n, e})
		}
	}
	return out
}

func collect(g api.Graph) []told {
	var out []told
	for n, e := range graph.Edges(g) {
		out = append(out, told{n, e})
	}
	return out
}

// copyOf is g in memory of its own, with nil where g has nil, and empty where g is empty.
func copyOf(g api.Graph) api.Graph {
	if g.Ops == nil {
		return g
	}
	ops := make([]api.Op, len(g.Ops))
	for n, o := range g.Ops {
		ops[n] = o
		if o.In != nil {
			ops[n].In = append(make([]api.Edge, 0, len(o.In)), o.In...)
		}
	}
	return api.Graph{Parts: g.Parts, Ops: ops}
}

// checkAll holds all calls of g against what the chapter tells.
func checkAll(t *testing.T, g api.Graph) {
	t.Helper()
	before := copyOf(g)
	n, fault := graph.Check(g)
	if wantN, want := modelCheck(g); n != wantN || fault != want {
		t.Errorf("Check of %v = %d, %d; want %d, %d", g, n, fault, wantN, want)
	}
	if got, want := collect(g), edgesOf(g); !slices.Equal(got, want) {
		t.Errorf("Edges of %v: %v, want %v", g, got, want)
	}
	checkForms(t, g, fault)
	checkFinds(t, g)
	if fault == api.OK {
		checkLeads(t, g)
	}
	for name, x := range map[string]api.Graph{"Clone": graph.Clone(g), "a copy": copyOf(g)} {
		if !graph.Same(x, g) || !graph.Same(g, x) {
			t.Errorf("%s of %v is %v: not the same", name, g, x)
		}
	}
	if !reflect.DeepEqual(g, before) {
		t.Errorf("the graph was %v, and is %v", before, g)
	}
}

func checkForms(t *testing.T, g api.Graph, fault api.Errno) {
	t.Helper()
	form := bytesOf(g)
	b, e := graph.Bytes(g)
	x, f := graph.Parse(form)
	if e != fault || f != fault {
		t.Errorf("%v: Check tells %d, Bytes %d, Parse %d", g, fault, e, f)
	}
	if fault != api.OK && (b != nil || x.Parts != 0 || x.Ops != nil) {
		t.Errorf("%v: beside the error %d Bytes answers %v, Parse %v", g, fault, b, x)
	}
	if fault == api.OK && (!bytes.Equal(b, form) || !graph.Same(x, g)) {
		t.Errorf("%v: Bytes are %v, want %v; Parse of these is %v", g, b, form, x)
	}
}

func checkFinds(t *testing.T, g api.Graph) {
	t.Helper()
	for from := -1; from <= len(g.Ops)+1; from++ {
		for port := -1; port <= 5; port++ {
			checkTo(t, g, from, port)
		}
	}
	for _, x := range edgesOf(g) {
		checkTo(t, g, x.e.From, x.e.Port)
	}
	for part := -1; part <= 5; part++ {
		want, found := 0, false
		for n, o := range slices.Backward(g.Ops) {
			if o.Kind == 1 && o.Part == part {
				want, found = n, true
			}
		}
		if n, ok := graph.Source(g, part); n != want || ok != found {
			t.Errorf("Source(%v, %d) = %d, %v; want %d, %v", g, part, n, ok, want, found)
		}
	}
	want, found := 0, false
	for n, o := range slices.Backward(g.Ops) {
		if o.Kind == 9 {
			want, found = n, true
		}
	}
	if n, ok := graph.Sink(g); n != want || ok != found {
		t.Errorf("Sink(%v) = %d, %v; want %d, %v", g, n, ok, want, found)
	}
}

func checkTo(t *testing.T, g api.Graph, from, port int) {
	t.Helper()
	wantN, wantI, found := 0, 0, false
	for n, o := range slices.Backward(g.Ops) {
		for i, e := range slices.Backward(o.In) {
			if e.From == from && e.Port == port {
				wantN, wantI, found = n, i, true
			}
		}
	}
	if n, i, ok := graph.To(g, from, port); n != wantN || i != wantI || ok != found {
		t.Errorf("To(%v, %d, %d) = %d, %d, %v; want %d, %d, %v", g, from, port, n, i, ok, wantN, wantI, found)
	}
}

// checkLeads: P5.5 and P5.6, of a graph that Check takes.
func checkLeads(t *testing.T, g api.Graph) {
	t.Helper()
	sink, ok := graph.Sink(g)
	if !ok {
		t.Fatalf("%v has no sink", g)
	}
	allPorts := 0
	for n, o := range g.Ops {
		for port := range graph.Ports(o) {
			allPorts++
			to, i, ok := graph.To(g, n, port)
			if !ok || to <= n || g.Ops[to].In[i] != (api.Edge{From: n, Port: port}) {
				t.Errorf("%v: port %d of %d leads to %d, %d, %v", g, port, n, to, i, ok)
			}
		}
		at := n
		for range g.Ops {
			if graph.Ports(g.Ops[at]) > 0 {
				at, _, _ = graph.To(g, at, 0)
			}
		}
		if at != sink {
			t.Errorf("%v: from %d one comes to %d, not to the sink %d", g, n, at, sink)
		}
	}
	if allPorts != len(collect(g)) {
		t.Errorf("%v has %d ports, and inputs %v", g, allPorts, collect(g))
	}
}

// pick takes bytes one by one, and zeros behind their end.
type pick []byte

func (p *pick) next() int {
	if len(*p) == 0 {
		return 0
	}
	b := (*p)[0]
	*p = (*p)[1:]
	return int(b)
}

func (p *pick) below(n int) int { return p.next() % n }

// number is one near to a bound of some field.
func (p *pick) number() int64 {
	near := []int64{0, 1, 2, 3, 4, 5, 6, 7, 8, 9, 10, 23, 24, 25, 63, 64, 65, 1023, 1024, 1025, -1, -2, most, least, most - 1, least + 1, 1 << 32, -1 << 32}
	return near[p.below(len(near))]
}

// grow builds a graph that Check takes: ports that lead nowhere yet are taken until all have come to the sink.
func (p *pick) grow() api.Graph {
	g := api.Graph{Parts: 1 + p.below(4)}
	parts := rand.New(rand.NewSource(int64(p.next()))).Perm(g.Parts)
	var open []api.Edge
	add := func(o api.Op) {
		for _, port := range modelPorts(o) {
			open = append(open, api.Edge{From: len(g.Ops), Port: port})
		}
		g.Ops = append(g.Ops, o)
	}
	take := func(count int) []api.Edge {
		var in []api.Edge
		for range count {
			i := p.below(len(open))
			in = append(in, open[i])
			open = slices.Delete(open, i, i+1)
		}
		return in
	}
	// Room is kept for the sources, and for the unions that are still needed: one for each open port is plenty.
	for steps := p.below(16); steps > 0; steps-- {
		if len(parts) > 0 && (len(open) == 0 || p.below(3) == 0) {
			add(api.Op{Kind: api.OpSource, Part: parts[0]})
			parts = parts[1:]
			continue
		}
		if len(open) == 0 || len(g.Ops)+len(open)+2*len(parts)+6 > 24 {
			break
		}
		kind := api.OpMap + p.below(7)
		if kind == api.OpUnion {
			if len(open) >= 2 {
				add(api.Op{Kind: kind, In: take(2 + p.below(min(len(open), 4)-1))})
			}
			continue
		}
		add(p.fill(api.Op{Kind: kind, In: take(1)}))
	}
	for _, part := range parts {
		add(api.Op{Kind: api.OpSource, Part: part})
	}
	for len(open) > 1 {
		add(api.Op{Kind: api.OpUnion, In: take(min(len(open), 4))})
	}
	add(api.Op{Kind: api.OpSink, In: take(1)})
	return g
}

// fill gives o an Fn and an Arg that its kind takes.
func (p *pick) fill(o api.Op) api.Op {
	spans := spansOf(o.Kind)
	s := spans[p.below(len(spans))]
	o.Fn = s.fn
	o.Arg = min(max(p.number(), s.from), s.to)
	return o
}

// spoil changes something of g, which may or may not be a fault.
func (p *pick) spoil(g *api.Graph) {
	if len(g.Ops) == 0 {
		g.Ops = append(g.Ops, api.Op{Kind: p.below(11)})
		return
	}
	n := p.below(len(g.Ops))
	o := &g.Ops[n]
	switch p.below(14) {
	case 0:
		g.Parts = int(p.number())
	case 1:
		o.Kind = int(p.number())
	case 2:
		o.Part = int(p.number())
	case 3:
		o.Fn = int(p.number())
	case 4:
		o.Arg = p.number()
	case 5:
		o.In = append(o.In, api.Edge{From: p.below(len(g.Ops)), Port: p.below(3)})
	case 6:
		o.In = o.In[:len(o.In)/2]
	case 7:
		if len(o.In) > 0 {
			o.In[p.below(len(o.In))].From = int(p.number())
		}
	case 8:
		if len(o.In) > 0 {
			o.In[p.below(len(o.In))].Port = int(p.number())
		}
	case 9:
		g.Ops = slices.Delete(g.Ops, n, n+1)
	case 10:
		g.Ops = slices.Insert(g.Ops, n, copyOf(*g).Ops[p.below(len(g.Ops))])
	case 11:
		m := p.below(len(g.Ops))
		g.Ops[n], g.Ops[m] = g.Ops[m], g.Ops[n]
	case 12:
		o.In = slices.Clone(g.Ops[p.below(len(g.Ops))].In)
	case 13:
		// Two sinks for one.
		last := &g.Ops[len(g.Ops)-1]
		last.Kind, last.Arg = api.OpRoute, 2
		for port := range 2 {
			g.Ops = append(g.Ops, api.Op{Kind: api.OpSink, In: []api.Edge{{From: len(g.Ops) - 1 - port, Port: port}}})
		}
	}
}

// checkGrown holds a graph that Check takes, and what becomes of it change by change, against the model; it tells what Check told.
func checkGrown(t *testing.T, p pick) []api.Errno {
	t.Helper()
	g := p.grow()
	if n, e := graph.Check(g); n != 0 || e != api.OK {
		t.Errorf("%v should be taken: %d, %d", g, n, e)
	}
	checkAll(t, g)
	var seen []api.Errno
	for range p.below(4) {
		p.spoil(&g)
		checkAll(t, g)
		_, e := graph.Check(g)
		seen = append(seen, e)
	}
	return seen
}

func TestP5ManyGraphs(t *testing.T) {
	source := rand.New(rand.NewSource(5))
	seen := map[api.Errno]int{}
	for range 5000 {
		p := make(pick, 100)
		source.Read(p)
		for _, e := range checkGrown(t, p) {
			seen[e]++
		}
		if t.Failed() {
			return
		}
	}
	for _, e := range []api.Errno{api.OK, api.ErrArg, api.ErrKind, api.ErrField, api.ErrEdge, api.ErrTaken, api.ErrLoose, api.ErrPart, api.ErrSink} {
		if seen[e] == 0 {
			t.Errorf("no graph came to %d: %v", e, seen)
		}
	}
}

func FuzzGraph(f *testing.F) {
	f.Add([]byte("a graph"))
	f.Add([]byte{3, 1, 15, 0, 0, 0, 5, 2, 2, 0, 1})
	f.Fuzz(func(t *testing.T, b []byte) { checkGrown(t, b) })
}

// FuzzParse: whatever Parse takes is a graph that Check takes, and these bytes are its form.
func FuzzParse(f *testing.F) {
	f.Add(bytesOf(line()))
	f.Fuzz(func(t *testing.T, b []byte) {
		g, e := graph.Parse(b)
		if e != api.OK {
			if g.Parts != 0 || g.Ops != nil {
				t.Errorf("beside %d: %v", e, g)
			}
			return
		}
		if back, f := graph.Bytes(g); f != api.OK || !bytes.Equal(back, b) {
			t.Errorf("Parse of %v is %v, whose Bytes are %v, %d", b, g, back, f)
		}
	})
}
