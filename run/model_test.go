package run_test

import (
	"math/rand"
	"slices"
	"testing"

	"pontoon/api"
	"pontoon/graph"
	"pontoon/oper"
	"pontoon/run"
)

// model is what an operator comes to.
type model struct {
	ports [][]api.Record
	keeps api.TaskState
}

// modelOf does what P8.2 tells, word by word: it asks for what comes out of a port, and so for the operator of that port.
func modelOf(g api.Graph, prefixes [][]api.Record, n int, known map[int]model) model {
	if m, ok := known[n]; ok {
		return m
	}
	o := g.Ops[n]
	var in [][]api.Record
	for _, e := range o.In {
		in = append(in, modelOf(g, prefixes, e.From, known).ports[e.Port])
	}
	m := model{ports: make([][]api.Record, graph.Ports(o))}
	switch o.Kind {
	case api.OpSource:
		m.ports[0] = prefixes[o.Part]
	case api.OpUnion:
		taken, turn, counts := modelTurns(0, in)
		m.ports[0] = taken
		m.keeps.State.Turn = turn
		for i, count := range counts {
			m.keeps.Buffers = append(m.keeps.Buffers, in[i][count:])
		}
	default:
		for _, r := range in[0] {
			state, puts := oper.Step(o, m.keeps.State, r)
			m.keeps.State = state
			for _, p := range puts {
				m.ports[p.Port] = append(m.ports[p.Port], p.Record)
			}
		}
	}
	known[n] = m
	return m
}

// outOf is what Out tells; it holds the places against what they must be.
func outOf(t *testing.T, g api.Graph, prefixes ...[]api.Record) []api.Record {
	t.Helper()
	var out []api.Record
	for place, r := range run.Out(g, prefixes...) {
		if place != len(out) {
			t.Errorf("Out tells the place %d behind %d records", place, len(out))
		}
		out = append(out, r)
	}
	return out
}

func sameLists(a, b [][]api.Record) bool {
	return slices.EqualFunc(a, b, slices.Equal[[]api.Record])
}

func sameTask(a, b api.TaskState) bool {
	return oper.Same(a.State, b.State) && sameLists(a.Buffers, b.Buffers)
}

// checkRefused holds all calls of a graph and prefixes that may not be against the error.
func checkRefused(t *testing.T, g api.Graph, op int, want api.Errno, prefixes ...[]api.Record) {
	t.Helper()
	if l, e := run.Run(g, prefixes...); l != nil || e != want {
		t.Errorf("Run(%v, %v) = %v, %d; want %d", g, prefixes, l, e, want)
	}
	if l, e := run.Ports(g, op, prefixes...); l != nil || e != want {
		t.Errorf("Ports(%v, %d, %v) = %v, %d; want %d", g, op, prefixes, l, e, want)
	}
	if l, e := run.States(g, prefixes...); l != nil || e != want {
		t.Errorf("States(%v, %v) = %v, %d; want %d", g, prefixes, l, e, want)
	}
	if l := outOf(t, g, prefixes...); len(l) != 0 {
		t.Errorf("Out(%v, %v) tells %v, though there is the error %d", g, prefixes, l, want)
	}
}

// checkAll holds all calls of a graph and prefixes against the model.
func checkAll(t *testing.T, g api.Graph, prefixes ...[]api.Record) {
	t.Helper()
	if _, e := graph.Check(g); e != api.OK || len(prefixes) != g.Parts {
		if e == api.OK {
			e = api.ErrArg
		}
		checkRefused(t, g, 0, e, prefixes...)
		return
	}
	known := map[int]model{}
	states, e := run.States(g, prefixes...)
	if e != api.OK || len(states) != len(g.Ops) {
		t.Fatalf("States(%v, %v) = %v, %d", g, prefixes, states, e)
	}
	for n, o := range g.Ops {
		want := modelOf(g, prefixes, n, known)
		if got, e := run.Ports(g, n, prefixes...); e != api.OK || !sameLists(got, want.ports) {
			t.Errorf("Ports(%v, %d, %v) = %v, %d; want %v", g, n, prefixes, got, e, want.ports)
		}
		if !sameTask(states[n], want.keeps) {
			t.Errorf("States(%v, %v): %d keeps %v; want %v", g, prefixes, n, states[n], want.keeps)
		}
		if e := oper.Check(o, states[n].State); e != api.OK {
			t.Errorf("States(%v, %v): %d keeps %v, of which oper.Check tells %d", g, prefixes, n, states[n], e)
		}
		if o.Kind == api.OpSink {
			last := o.In[0]
			out := modelOf(g, prefixes, last.From, known).ports[last.Port]
			if got, e := run.Run(g, prefixes...); e != api.OK || !slices.Equal(got, out) {
				t.Errorf("Run(%v, %v) = %v, %d; want %v", g, prefixes, got, e, out)
			}
			if got := outOf(t, g, prefixes...); !slices.Equal(got, out) {
				t.Errorf("Out(%v, %v) tells %v; want %v", g, prefixes, got, out)
			}
		}
	}
	for _, op := range []int{least, -1, len(g.Ops), len(g.Ops) + 1, most} {
		if got, e := run.Ports(g, op, prefixes...); got != nil || e != api.ErrArg {
			t.Errorf("Ports(%v, %d, %v) = %v, %d", g, op, prefixes, got, e)
		}
	}
}

// pick takes bytes one by one, and zeros behind their end.
type pick []byte

func (p *pick) below(n int) int {
	if len(*p) == 0 {
		return 0
	}
	b := (*p)[0]
	*p = (*p)[1:]
	return int(b) % n
}

func (p *pick) number() int64 {
	near := []int64{0, 1, 2, 3, 4, 5, -1, -2, -3, -4, 7, 1 << 40, -1 << 40, most, least, most - 1, least + 1}
	return near[p.below(len(near))]
}

// anyOp is an operator of that kind, of which graph.Check takes the fields.
func (p *pick) anyOp(kind int, in ...api.Edge) api.Op {
	o := api.Op{Kind: kind, In: in}
	switch kind {
	case api.OpMap, api.OpFilter:
		o.Fn, o.Arg = 1+p.below(4), p.number()
		if o.Fn == api.FnNeg { // FnOdd, too
			o.Arg = 0
		}
	case api.OpKey:
		o.Fn, o.Arg = 1+p.below(4), p.number()
		switch o.Fn {
		case api.FnKeep:
			o.Arg = 0
		case api.FnMod, api.FnVal:
			o.Arg = max(o.Arg, 1)
		}
	case api.OpFold:
		o.Fn = 1 + p.below(5)
	case api.OpWindow:
		o.Fn, o.Arg = 1+p.below(5), int64(1+p.below(4))
	case api.OpRoute:
		o.Arg = int64(2 + p.below(3))
	}
	return o
}

// builder grows a graph that graph.Check takes: ports that lead nowhere yet are taken, until all have come to the sink.
type builder struct {
	*pick
	g    api.Graph
	open []api.Edge
}

func (b *builder) add(o api.Op) {
	for port := range graph.Ports(o) {
		b.open = append(b.open, api.Edge{From: len(b.g.Ops), Port: port})
	}
	b.g.Ops = append(b.g.Ops, o)
}

func (b *builder) take(count int) []api.Edge {
	var in []api.Edge
	for range count {
		i := b.below(len(b.open))
		in = append(in, b.open[i])
		b.open = slices.Delete(b.open, i, i+1)
	}
	return in
}

func (p *pick) anyGraph() api.Graph {
	b := builder{pick: p, g: api.Graph{Parts: 1 + p.below(api.MaxParts)}}
	first := p.below(b.g.Parts)
	for part := range b.g.Parts {
		b.add(api.Op{Kind: api.OpSource, Part: (first + part) % b.g.Parts})
	}
	// Room is kept for the unions that are still needed, and the sink.
	for steps := p.below(20); steps > 0 && len(b.g.Ops)+len(b.open)/2+5 <= api.MaxOps; steps-- {
		kind := api.OpMap + p.below(7)
		if kind != api.OpUnion {
			b.add(p.anyOp(kind, b.take(1)...))
		} else if len(b.open) >= 2 {
			b.add(p.anyOp(kind, b.take(2+p.below(min(len(b.open), api.MaxPorts)-1))...))
		}
	}
	for len(b.open) > 1 {
		b.add(p.anyOp(api.OpUnion, b.take(min(len(b.open), api.MaxPorts))...))
	}
	b.add(p.anyOp(api.OpSink, b.take(1)...))
	return b.g
}

func (p *pick) anyPrefixes(parts int) [][]api.Record {
	prefixes := make([][]api.Record, parts)
	for i := range prefixes {
		for range p.below(16) {
			prefixes[i] = append(prefixes[i], api.Record{Key: int64(p.below(7)) - 3, Val: p.number()})
		}
	}
	return prefixes
}

// random is that many bytes to pick from.
func random(r *rand.Rand, count int) *pick {
	p := make(pick, count)
	r.Read(p)
	return &p
}

func TestP82Model(t *testing.T) {
	r := rand.New(rand.NewSource(8))
	kinds, most := map[int]int{}, 0
	for range 10000 {
		p := random(r, 300)
		g := p.anyGraph()
		if n, e := graph.Check(g); e != api.OK {
			t.Fatalf("%v should be taken: %d, %d", g, n, e)
		}
		for _, o := range g.Ops {
			kinds[o.Kind]++
		}
		most = max(most, len(g.Ops))
		checkAll(t, g, p.anyPrefixes(g.Parts)...)
		if t.Failed() {
			return
		}
	}
	if len(kinds) != 9 || most < 20 {
		t.Errorf("kinds %v, up to %d operators", kinds, most)
	}
}

// TestR1AnyGraph: graphs of which something was changed, and any number of prefixes.
func TestR1AnyGraph(t *testing.T) {
	r := rand.New(rand.NewSource(9))
	seen := map[api.Errno]int{}
	for range 20000 {
		p := random(r, 300)
		g := p.anyGraph()
		o := &g.Ops[p.below(len(g.Ops))]
		switch p.below(9) {
		case 0:
			g.Parts = int(p.number())
		case 1:
			o.Kind = int(p.number())
		case 2:
			o.Part = int(p.number())
		case 3:
			o.Fn = int(p.number())
		case 4:
			o.Arg = p.number()
		case 5:
			o.In = append(o.In, api.Edge{From: p.below(len(g.Ops)), Port: p.below(3)})
		case 6:
			o.In = nil
		case 7:
			for i := range o.In {
				o.In[i] = api.Edge{From: int(p.number()), Port: int(p.number())}
			}
		case 8:
			g.Ops = slices.Delete(g.Ops, 0, p.below(len(g.Ops)+1))
		}
		_, e := graph.Check(g)
		seen[e]++
		checkAll(t, g, p.anyPrefixes(p.below(7))...)
		if t.Failed() {
			return
		}
	}
	if len(seen) < 6 {
		t.Errorf("graph.Check told only %v", seen)
	}
}

func begins(l, first []api.Record) bool {
	return len(l) >= len(first) && slices.Equal(l[:len(first)], first)
}

func TestP84ItGrows(t *testing.T) {
	r := rand.New(rand.NewSource(4))
	for range 4000 {
		p := random(r, 300)
		g := p.anyGraph()
		more := p.anyPrefixes(g.Parts)
		had := slices.Clone(more)
		for i, l := range more {
			if r.Intn(3) > 0 {
				had[i] = l[:r.Intn(len(l)+1)]
			}
		}
		a, _ := run.Run(g, had...)
		b, _ := run.Run(g, more...)
		if !begins(b, a) {
			t.Fatalf("Run(%v) of %v is %v; of %v %v", g, had, a, more, b)
		}
		for n := range g.Ops {
			a, _ := run.Ports(g, n, had...)
			b, _ := run.Ports(g, n, more...)
			if !slices.EqualFunc(b, a, begins) {
				t.Fatalf("Ports(%v, %d) of %v is %v; of %v %v", g, n, had, a, more, b)
			}
		}
	}
}

// TestP86Apart: behind a fold or a window, of each key that came in, there is what its records come to alone.
func TestP86Apart(t *testing.T) {
	r := rand.New(rand.NewSource(6))
	for range 3000 {
		p := random(r, 100)
		o := p.anyOp(api.OpFold+r.Intn(2), api.Edge{From: 0})
		g := of(1, source(0), o, sink(1))
		l := p.anyPrefixes(1)[0]
		out, _ := run.Run(g, l)
		states, _ := run.States(g, l)
		for key := range int64(8) {
			other := func(r api.Record) bool { return r.Key != key-4 }
			alone := slices.DeleteFunc(slices.Clone(l), other)
			want, _ := run.Run(g, alone)
			if got := slices.DeleteFunc(slices.Clone(out), other); !slices.Equal(got, want) {
				t.Fatalf("%v of %v: of the key %d %v; alone %v", o, l, key-4, got, want)
			}
			wantStates, _ := run.States(g, alone)
			kept := slices.DeleteFunc(slices.Clone(states[1].State.Keys), func(k api.KeyState) bool { return k.Key != key-4 })
			if !slices.Equal(kept, wantStates[1].State.Keys) {
				t.Fatalf("%v of %v: of the key %d it keeps %v; alone %v", o, l, key-4, kept, wantStates[1])
			}
		}
	}
}

func FuzzRun(f *testing.F) {
	f.Add([]byte("a graph, and some records of each of its partitions"))
	f.Add([]byte{3, 1, 15, 0, 0, 0, 5, 2, 2, 0, 1, 4, 4, 5, 5, 6, 6, 7, 7})
	f.Fuzz(func(t *testing.T, b []byte) {
		p := pick(b)
		g := p.anyGraph()
		checkAll(t, g, p.anyPrefixes(g.Parts)...)
	})
}
