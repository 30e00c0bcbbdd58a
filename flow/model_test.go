package flow_test

import (
	"iter"
	"math"
	"math/rand"
	"slices"
	"testing"

	"pontoon/api"
	"pontoon/flow"
	"pontoon/graph"
	"pontoon/oper"
	"pontoon/task"
)

const (
	most  = math.MaxInt64
	least = math.MinInt64
)

func rec(key, val int64) api.Record {
	return api.Record{Key: key, Val: val}
}

// count is that many records, with values from 0 on.
func count(n int) []api.Record {
	var l []api.Record
	for i := range n {
		l = append(l, rec(int64(i%5), int64(i)))
	}
	return l
}

func in(l ...int) []api.Edge {
	var edges []api.Edge
	for _, n := range l {
		edges = append(edges, api.Edge{From: n})
	}
	return edges
}

func of(parts int, ops ...api.Op) api.Graph {
	return api.Graph{Parts: parts, Ops: ops}
}

func source(part int) api.Op {
	return api.Op{Kind: api.OpSource, Part: part}
}

func sink(from int) api.Op {
	return api.Op{Kind: api.OpSink, In: in(from)}
}

// short is a source and a sink.
func short() api.Graph {
	return of(1, source(0), sink(0))
}

// two is a union of two sources.
func two() api.Graph {
	return of(2, source(0), source(1), api.Op{Kind: api.OpUnion, In: in(0, 1)}, sink(2))
}

// wide has operators of all Kinds, two partitions, and a route of three ports.
func wide() api.Graph {
	return of(2,
		source(1),
		source(0),
		api.Op{Kind: api.OpRoute, Arg: 3, In: in(1)},
		api.Op{Kind: api.OpKey, Fn: api.FnMod, Arg: 2, In: []api.Edge{{From: 2, Port: 2}}},
		api.Op{Kind: api.OpFilter, Fn: api.FnLess, Arg: 90, In: []api.Edge{{From: 2, Port: 0}}},
		api.Op{Kind: api.OpUnion, In: []api.Edge{{From: 4}, {From: 0}, {From: 2, Port: 1}, {From: 3}}},
		api.Op{Kind: api.OpWindow, Fn: api.FnSum, Arg: 2, In: in(5)},
		api.Op{Kind: api.OpMap, Fn: api.FnXor, Arg: 1, In: in(6)},
		api.Op{Kind: api.OpFold, Fn: api.FnMin, In: in(7)},
		sink(8),
	)
}

// nothing is what a flow of New comes from.
func nothing(g api.Graph) api.FlowState {
	s := api.FlowState{Vector: make([]int64, g.Parts)}
	for _, o := range g.Ops {
		kept := api.TaskState{}
		if o.Kind == api.OpUnion {
			kept.Buffers = make([][]api.Record, len(o.In))
		}
		s.Tasks = append(s.Tasks, kept)
	}
	return s
}

func cloneTask(s api.TaskState) api.TaskState {
	c := api.TaskState{State: oper.Clone(s.State)}
	for _, l := range s.Buffers {
		c.Buffers = append(c.Buffers, slices.Clone(l))
	}
	return c
}

func cloneState(s api.FlowState) api.FlowState {
	c := api.FlowState{Id: s.Id, Vector: slices.Clone(s.Vector), Out: s.Out}
	for _, k := range s.Tasks {
		c.Tasks = append(c.Tasks, cloneTask(k))
	}
	return c
}

func sameTask(a, b api.TaskState) bool {
	return oper.Same(a.State, b.State) && slices.EqualFunc(a.Buffers, b.Buffers, slices.Equal[[]api.Record])
}

func sameState(a, b api.FlowState) bool {
	return a.Id == b.Id && a.Out == b.Out && slices.Equal(a.Vector, b.Vector) && slices.EqualFunc(a.Tasks, b.Tasks, sameTask)
}

// model is what the chapter tells of a flow.
type model struct {
	g      api.Graph
	tasks  []*task.Task
	waits  [][]api.Event // of each partition
	fed    []int64
	base   int64
	out    []api.Record
	passed int64
	onWay  bool
	snap   api.FlowState // of the barrier that was put last, as far as it is known
	snaps  bool          // whether Snap tells it
}

func modelFrom(g api.Graph, room int, s api.FlowState) (*model, api.Errno) {
	if _, e := graph.Check(g); e != api.OK {
		return nil, e
	}
	if room < 1 || room > 64 {
		return nil, api.ErrArg
	}
	if s.Id < 0 || s.Id > 1<<53 || s.Out < 0 || s.Out > 1<<53 || len(s.Vector) != g.Parts || len(s.Tasks) != len(g.Ops) {
		return nil, api.ErrState
	}
	for _, n := range s.Vector {
		if n < 0 || n > 1<<53 {
			return nil, api.ErrState
		}
	}
	m := &model{g: graph.Clone(g), waits: make([][]api.Event, g.Parts), fed: slices.Clone(s.Vector), base: s.Out, passed: s.Id}
	for n, o := range g.Ops {
		x, e := task.From(o, room, s.Tasks[n])
		if e != api.OK {
			return nil, api.ErrState
		}
		m.tasks = append(m.tasks, x)
	}
	return m, api.OK
}

func (m *model) clone() *model {
	c := *m
	c.tasks, c.waits = nil, nil
	for _, x := range m.tasks {
		c.tasks = append(c.tasks, x.Clone())
	}
	for _, l := range m.waits {
		c.waits = append(c.waits, slices.Clone(l))
	}
	c.fed, c.out, c.snap = slices.Clone(m.fed), slices.Clone(m.out), cloneState(m.snap)
	return &c
}

func (m *model) feed(part int, l []api.Record) api.Errno {
	if part < 0 || part >= m.g.Parts {
		return api.ErrArg
	}
	if len(m.waits[part])+len(l) > 4096 {
		return api.ErrLong
	}
	if m.fed[part]+int64(len(l)) > 1<<53 {
		return api.ErrFull
	}
	for _, r := range l {
		m.waits[part] = append(m.waits[part], api.Event{Kind: api.EvRecord, Record: r})
		m.fed[part]++
	}
	return api.OK
}

func (m *model) barrier(id int64) api.Errno {
	if id < 1 || id > 1<<53 {
		return api.ErrArg
	}
	if m.onWay {
		return api.ErrBarrier
	}
	if id <= m.passed {
		return api.ErrPast
	}
	for _, l := range m.waits {
		if len(l) >= 4096 {
			return api.ErrLong
		}
	}
	for part := range m.waits {
		m.waits[part] = append(m.waits[part], api.Event{Kind: api.EvBarrier, Id: id})
	}
	m.onWay, m.snaps, m.snap = true, false, api.FlowState{Id: id, Vector: slices.Clone(m.fed)}
	return api.OK
}

// step does what P11.3 tells, word by word.
func (m *model) step(op int) bool {
	if op < 0 || op >= len(m.tasks) {
		return false
	}
	did := false
	o, x := m.g.Ops[op], m.tasks[op]
	if o.Kind == api.OpSource && len(m.waits[o.Part]) > 0 && x.Left(0) > 0 {
		x.Feed(0, m.waits[o.Part][0])
		m.waits[o.Part] = m.waits[o.Part][1:]
		did = true
	}
	var left []int
	for port := range graph.Ports(o) {
		n, i, _ := graph.To(m.g, op, port)
		left = append(left, m.tasks[n].Left(i))
	}
	if o.Kind == api.OpSink {
		left = []int{1}
	}
	out, done := x.Step(left...)
	for _, put := range out {
		if o.Kind == api.OpSink {
			m.comesOut(put.Event)
			continue
		}
		n, i, _ := graph.To(m.g, op, put.Port)
		m.tasks[n].Feed(i, put.Event)
	}
	return did || done
}

func (m *model) comesOut(e api.Event) {
	if e.Kind == api.EvRecord {
		m.out = append(m.out, e.Record)
		return
	}
	m.onWay, m.snaps, m.passed = false, true, e.Id
	m.snap.Out = m.base + int64(len(m.out))
	for _, x := range m.tasks {
		kept, _ := x.Aside(e.Id)
		m.snap.Tasks = append(m.snap.Tasks, kept)
	}
}

func (m *model) drain() int {
	n := 0
	for {
		before := n
		for op := range m.tasks {
			if m.step(op) {
				n++
			}
		}
		if n == before {
			return n
		}
	}
}

// both is a flow, and what the chapter tells of it: whatever is done to the one is done to the other one, and what can be seen is held against each other behind it.
type both struct {
	*testing.T
	flow  *flow.Flow
	model *model
}

// from is a flow of From, which must take these.
func from(t *testing.T, g api.Graph, room int, s api.FlowState) both {
	t.Helper()
	m, want := modelFrom(g, room, s)
	f, e := flow.From(g, room, s)
	if e != api.OK || want != api.OK || f == nil {
		t.Fatalf("From(%v, %d, %v) = %v, %d; want %d", g, room, s, f, e, want)
	}
	b := both{t, f, m}
	b.check()
	return b
}

// fresh is a flow of New, which must take these.
func fresh(t *testing.T, g api.Graph, room int) both {
	t.Helper()
	m, want := modelFrom(g, room, nothing(g))
	f, e := flow.New(g, room)
	if e != api.OK || want != api.OK || f == nil {
		t.Fatalf("New(%v, %d) = %v, %d; want %d", g, room, f, e, want)
	}
	b := both{t, f, m}
	b.check()
	return b
}

func (b both) clone() both {
	return both{b.T, b.flow.Clone(), b.model.clone()}
}

// told is what an iterator tells.
func told(l iter.Seq2[int64, api.Record]) ([]int64, []api.Record) {
	var places []int64
	var records []api.Record
	for place, r := range l {
		places, records = append(places, place), append(records, r)
	}
	return places, records
}

// check holds what can be seen of the flow, but for Can and all but the last ones of many records, against the model.
func (b both) check() {
	b.Helper()
	m, f := b.model, b.flow
	end := m.base + int64(len(m.out))
	if fed := f.Fed(); !slices.Equal(fed, m.fed) {
		b.Errorf("Fed = %v; want %v", fed, m.fed)
	}
	if f.Base() != m.base || f.Count() != end || f.Passed() != m.passed {
		b.Errorf("Base %d, Count %d, Passed %d; want %d, %d, %d", f.Base(), f.Count(), f.Passed(), m.base, end, m.passed)
	}
	b.checkOut(end - 5)
	want, is := m.snap, m.snaps
	if !is {
		want = api.FlowState{}
	}
	if s, ok := f.Snap(); ok != is || !sameState(s, want) || !ok && (s.Vector != nil || s.Tasks != nil) {
		b.Errorf("Snap = %v, %v; want %v, %v", s, ok, want, is)
	}
}

// checkOut holds Out against the model.
func (b both) checkOut(from int64) {
	b.Helper()
	m := b.model
	places, records := told(b.flow.Out(from))
	first := max(from, m.base)
	want := m.out[min(first-m.base, int64(len(m.out))):]
	if !slices.Equal(records, want) {
		b.Errorf("Out(%d) tells %v; want %v", from, records, want)
	}
	for i, place := range places {
		if place != first+int64(i) {
			b.Errorf("Out(%d) tells the places %v", from, places)
			return
		}
	}
}

// checkAll holds all that can be seen of the flow against the model, Can of each operator and Out from many places among it.
func (b both) checkAll() {
	b.Helper()
	b.check()
	m := b.model
	end := m.base + int64(len(m.out))
	for _, from := range []int64{least, -1, 0, 1, m.base - 1, m.base, m.base + 1, (m.base + end) / 2, end - 1, end, end + 1, most} {
		b.checkOut(from)
	}
	for _, op := range []int{least, -1, len(m.tasks), len(m.tasks) + 1, most} {
		if b.flow.Can(op) || b.flow.Step(op) {
			b.Errorf("there is an operator %d", op)
		}
	}
	for op := range m.tasks {
		if got, want := b.flow.Can(op), m.clone().step(op); got != want {
			b.Errorf("Can(%d) = %v; want %v", op, got, want)
		}
	}
	b.check()
}

func (b both) feed(part int, l ...api.Record) api.Errno {
	b.Helper()
	want := b.model.feed(part, l)
	if got := b.flow.Feed(part, l...); got != want {
		b.Errorf("Feed(%d, %d records) = %d; want %d", part, len(l), got, want)
	}
	b.check()
	return want
}

func (b both) barrier(id int64) api.Errno {
	b.Helper()
	want := b.model.barrier(id)
	if got := b.flow.Barrier(id); got != want {
		b.Errorf("Barrier(%d) = %d; want %d", id, got, want)
	}
	b.check()
	return want
}

// answers holds what a call answered against what it must.
func (b both) answers(got, want api.Errno) {
	b.Helper()
	if got != want {
		b.Errorf("the answer is %d; want %d", got, want)
	}
}

func (b both) step(op int) bool {
	b.Helper()
	can := b.flow.Can(op)
	b.check()
	want := b.model.step(op)
	if got := b.flow.Step(op); got != want || can != want {
		b.Errorf("Can(%d) = %v, Step = %v; want %v", op, can, got, want)
	}
	b.check()
	return want
}

// does steps these operators, one behind the other; each must do something.
func (b both) does(ops ...int) {
	b.Helper()
	for i, op := range ops {
		if !b.step(op) {
			b.Errorf("Step(%d), the %d-th of %v, did nothing", op, i, ops)
		}
	}
}

// stuck steps these operators, one behind the other; none may do anything.
func (b both) stuck(ops ...int) {
	b.Helper()
	for _, op := range ops {
		if b.step(op) {
			b.Errorf("Step(%d) did something", op)
		}
	}
}

func (b both) drain() int {
	b.Helper()
	want := b.model.drain()
	if got := b.flow.Drain(); got != want {
		b.Errorf("Drain = %d; want %d", got, want)
	}
	b.checkAll()
	return want
}

// pick takes bytes one by one, and zeros behind their end.
type pick []byte

func (p *pick) below(n int) int {
	if len(*p) == 0 {
		return 0
	}
	b := (*p)[0]
	*p = (*p)[1:]
	return int(b) % n
}

func (p *pick) number() int64 {
	near := []int64{0, 1, 2, 3, 4, 5, -1, -2, -3, 7, 1 << 40, most, least}
	return near[p.below(len(near))]
}

func (p *pick) record() api.Record {
	return rec(int64(p.below(7))-3, p.number())
}

func (p *pick) records(n int) []api.Record {
	var l []api.Record
	for range n {
		l = append(l, p.record())
	}
	return l
}

// op is an operator of that Kind, of which graph.Check takes the fields.
func (p *pick) op(kind int, edges ...api.Edge) api.Op {
	o := api.Op{Kind: kind, In: edges}
	switch kind {
	case api.OpMap, api.OpFilter:
		o.Fn, o.Arg = 1+p.below(4), p.number()
		if o.Fn == api.FnNeg { // FnOdd, too
			o.Arg = 0
		}
	case api.OpKey:
		o.Fn, o.Arg = 1+p.below(4), p.number()
		switch o.Fn {
		case api.FnKeep:
			o.Arg = 0
		case api.FnMod, api.FnVal:
			o.Arg = max(o.Arg, 1)
		}
	case api.OpFold:
		o.Fn = 1 + p.below(5)
	case api.OpWindow:
		o.Fn, o.Arg = 1+p.below(5), int64(1+p.below(4))
	case api.OpRoute:
		o.Arg = int64(2 + p.below(3))
	}
	return o
}

// builder grows a graph that graph.Check takes: ports that lead nowhere yet are taken, until all have come to the sink.
type builder struct {
	*pick
	g    api.Graph
	open []api.Edge
}

func (b *builder) add(o api.Op) {
	for port := range graph.Ports(o) {
		b.open = append(b.open, api.Edge{From: len(b.g.Ops), Port: port})
	}
	b.g.Ops = append(b.g.Ops, o)
}

func (b *builder) take(n int) []api.Edge {
	var edges []api.Edge
	for range n {
		i := b.below(len(b.open))
		edges = append(edges, b.open[i])
		b.open = slices.Delete(b.open, i, i+1)
	}
	return edges
}

func (p *pick) graph() api.Graph {
	b := builder{pick: p, g: api.Graph{Parts: 1 + p.below(api.MaxParts)}}
	first := p.below(b.g.Parts)
	for part := range b.g.Parts {
		b.add(source((first + part) % b.g.Parts))
	}
	// Room is kept for the unions that are still needed, and the sink.
	for steps := p.below(20); steps > 0 && len(b.g.Ops)+len(b.open)/2+5 <= api.MaxOps; steps-- {
		kind := api.OpMap + p.below(7)
		if kind != api.OpUnion {
			b.add(p.op(kind, b.take(1)...))
		} else if len(b.open) >= 2 {
			b.add(p.op(kind, b.take(2+p.below(min(len(b.open), api.MaxPorts)-1))...))
		}
	}
	for len(b.open) > 1 {
		b.add(p.op(api.OpUnion, b.take(min(len(b.open), api.MaxPorts))...))
	}
	b.add(p.op(api.OpSink, b.take(1)...))
	return b.g
}

func (p *pick) room() int {
	all := []int{1, 2, 3, 4, 8, api.MaxQueue, 1, 1, api.MaxQueue + 1, 0}
	if p.below(8) > 0 {
		return all[p.below(8)]
	}
	return all[p.below(len(all))]
}

// state is what a flow of g may come from, and sometimes what it may not.
func (p *pick) state(g api.Graph) api.FlowState {
	s := nothing(g)
	if p.below(4) == 0 {
		return s
	}
	s.Id, s.Out = int64(p.below(9)), int64(p.below(9))
	for part := range s.Vector {
		s.Vector[part] = int64(p.below(20))
	}
	for n, o := range g.Ops {
		kept := &s.Tasks[n]
		switch o.Kind {
		case api.OpUnion:
			kept.State.Turn = p.below(len(o.In))
			for i := range kept.Buffers {
				kept.Buffers[i] = p.records(p.below(3))
			}
		case api.OpFold:
			kept.State.Keys = []api.KeyState{{Key: -1, Count: 3, Acc: p.number()}, {Key: 2, Count: 1, Acc: p.number()}}
		case api.OpWindow:
			if o.Arg > 1 {
				kept.State.Keys = []api.KeyState{{Key: p.number(), Count: 1, Acc: p.number()}}
			}
		}
	}
	switch p.below(24) {
	case 0:
		s.Id = []int64{-1, api.MaxNum, api.MaxNum + 1}[p.below(3)]
	case 1:
		s.Out = []int64{-1, api.MaxNum, api.MaxNum + 1}[p.below(3)]
	case 2, 7, 8:
		s.Vector[p.below(len(s.Vector))] = []int64{-1, api.MaxNum, api.MaxNum + 1, api.MaxNum - 3}[p.below(4)]
	case 3:
		s.Vector = s.Vector[1:]
	case 4:
		s.Tasks = s.Tasks[1:]
	case 5:
		s.Tasks[p.below(len(s.Tasks))].State.Turn = 9
	case 6:
		n := p.below(len(s.Tasks))
		s.Tasks[n].Buffers = append(s.Tasks[n].Buffers, nil)
	}
	return s
}

// random is that many bytes to pick from.
func random(r *rand.Rand, n int) *pick {
	p := make(pick, n)
	r.Read(p)
	return &p
}

// seen is how often what was answered.
type seen struct {
	from, feed, barrier map[api.Errno]int
	step                map[bool]int
	kinds               map[int]int
	snaps               int
}

func newSeen() *seen {
	return &seen{map[api.Errno]int{}, map[api.Errno]int{}, map[api.Errno]int{}, map[bool]int{}, map[int]int{}, 0}
}

// walk does with a flow what the bytes say, held against the model.
func (s *seen) walk(t *testing.T, p *pick) {
	g := p.graph()
	room, state := p.room(), p.state(g)
	_, want := modelFrom(g, room, state)
	s.from[want]++
	if want != api.OK {
		if f, e := flow.From(g, room, state); f != nil || e != want {
			t.Errorf("From(%v, %d, %v) = %v, %d; want %d", g, room, state, f, e, want)
		}
		return
	}
	for _, o := range g.Ops {
		s.kinds[o.Kind]++
	}
	b := from(t, g, room, state)
	for len(*p) > 0 && !t.Failed() {
		b = s.act(b, p)
	}
	b.drain()
}

func (s *seen) act(b both, p *pick) both {
	m := b.model
	switch p.below(16) {
	case 0, 1, 2:
		part := p.below(m.g.Parts+2) - 1
		s.feed[b.feed(part, p.records(p.below(5))...)]++
	case 3:
		// So many that there is no room for more; seldom, as these take their time.
		if p.below(16) > 0 {
			break
		}
		part := p.below(m.g.Parts)
		many := api.MaxFeed - len(m.waits[part]) + p.below(3) - 1
		s.feed[b.feed(part, count(max(many, 0))...)]++
		s.barrier[b.barrier(m.passed+1)]++
	case 4, 5:
		id := m.passed + int64(p.below(4))
		s.barrier[b.barrier(id)]++
	case 6:
		s.barrier[b.barrier([]int64{0, -1, api.MaxNum + 1, most, least, 1}[p.below(6)])]++
	case 7:
		if p.below(4) == 0 {
			b.drain()
		}
	case 8:
		// From now on the clone is looked at; what is done to the other one must not be seen.
		c := b.clone()
		b.flow.Feed(0, count(3)...)
		b.flow.Barrier(api.MaxNum)
		b.flow.Drain()
		b = c
		b.checkAll()
	default:
		for range 1 + p.below(20) {
			s.step[b.step(p.below(len(m.tasks)+2)-1)]++
		}
	}
	if _, ok := b.flow.Snap(); ok {
		s.snaps++
	}
	return b
}

func TestModel(t *testing.T) {
	r := rand.New(rand.NewSource(11))
	s := newSeen()
	for range 1000 {
		s.walk(t, random(r, 100+r.Intn(400)))
		if t.Failed() {
			return
		}
	}
	enough := func(what string, times map[api.Errno]int, errors ...api.Errno) {
		for _, e := range errors {
			if times[e] < 20 {
				t.Errorf("%s answered %v: too few of %d", what, times, e)
			}
		}
	}
	enough("From", s.from, api.OK, api.ErrArg, api.ErrState)
	enough("Feed", s.feed, api.OK, api.ErrArg, api.ErrLong, api.ErrFull)
	enough("Barrier", s.barrier, api.OK, api.ErrArg, api.ErrBarrier, api.ErrPast, api.ErrLong)
	if s.step[true] < 1000 || s.step[false] < 1000 || s.snaps < 100 || len(s.kinds) != 9 {
		t.Errorf("too little was seen: %v", s)
	}
}

func FuzzFlow(f *testing.F) {
	f.Add([]byte("a graph, a state that a flow of it comes from, and what is done with it"))
	f.Add([]byte{1, 0, 3, 5, 2, 0, 0, 1, 1, 1, 0, 0, 3, 1, 1, 1, 4, 1, 9, 9, 9, 9, 7, 0, 8, 9, 5})
	f.Fuzz(func(t *testing.T, b []byte) {
		p := pick(b)
		newSeen().walk(t, &p)
	})
}
