package task_test

import (
	"math"
	"math/rand"
	"slices"
	"testing"

	"pontoon/api"
	"pontoon/oper"
	"pontoon/task"
)

const (
	most  = math.MaxInt64
	least = math.MinInt64
)

func rec(key, val int64) api.Event {
	return api.Event{Kind: api.EvRecord, Record: api.Record{Key: key, Val: val}}
}

func bar(id int64) api.Event {
	return api.Event{Kind: api.EvBarrier, Id: id}
}

func records(l ...api.Event) []api.Record {
	var out []api.Record
	for _, e := range l {
		out = append(out, e.Record)
	}
	return out
}

// outs is these events going out of a port.
func outs(port int, l ...api.Event) []api.Out {
	var out []api.Out
	for _, e := range l {
		out = append(out, api.Out{Port: port, Event: e})
	}
	return out
}

func union(inputs int) api.Op {
	return api.Op{Kind: api.OpUnion, In: make([]api.Edge, inputs)}
}

func route(arg int64) api.Op {
	return api.Op{Kind: api.OpRoute, Arg: arg, In: make([]api.Edge, 1)}
}

func window(fn int, arg int64) api.Op {
	return api.Op{Kind: api.OpWindow, Fn: fn, Arg: arg, In: make([]api.Edge, 1)}
}

func fold(fn int) api.Op {
	return api.Op{Kind: api.OpFold, Fn: fn, In: make([]api.Edge, 1)}
}

func plain(kind, fn int, arg int64) api.Op {
	return api.Op{Kind: kind, Fn: fn, Arg: arg, In: make([]api.Edge, 1)}
}

// ops is operators of all Kinds.
func ops() []api.Op {
	return []api.Op{
		{Kind: api.OpSource},
		plain(api.OpMap, api.FnAdd, 5), plain(api.OpMap, api.FnNeg, 0),
		plain(api.OpFilter, api.FnOdd, 0), plain(api.OpFilter, api.FnLess, 3),
		plain(api.OpKey, api.FnMod, 3), plain(api.OpKey, api.FnOne, 7),
		fold(api.FnSum), fold(api.FnMax), fold(api.FnCount),
		window(api.FnSum, 2), window(api.FnLast, 1), window(api.FnMin, 3),
		route(2), route(3), route(4),
		union(2), union(3), union(4),
		plain(api.OpSink, 0, 0),
	}
}

// portsOf is how many ports a task of o has.
func portsOf(o api.Op) int {
	if o.Kind == api.OpRoute {
		return int(o.Arg)
	}
	return 1
}

// model is what the chapter tells of a task.
type model struct {
	op     api.Op
	room   int
	now    api.TaskState
	queues [][]api.Event
	last   []int64 // of each input the Id of the last barrier that was fed to it
	passed int64
	aside  api.TaskState
}

func modelFrom(o api.Op, room int, s api.TaskState) (*model, api.Errno) {
	if o.Kind < 1 || o.Kind > 9 {
		return nil, api.ErrArg
	}
	if o.Kind == api.OpUnion && (len(o.In) < 2 || len(o.In) > 4) {
		return nil, api.ErrArg
	}
	if o.Kind == api.OpRoute && (o.Arg < 2 || o.Arg > 4) {
		return nil, api.ErrArg
	}
	if room < 1 || room > 64 {
		return nil, api.ErrArg
	}
	if e := oper.Check(o, s.State); e != api.OK {
		return nil, e
	}
	inputs, buffers := 1, 0
	if o.Kind == api.OpUnion {
		inputs, buffers = len(o.In), len(o.In)
	}
	if len(s.Buffers) != buffers {
		return nil, api.ErrArg
	}
	return &model{op: o, room: room, now: cloneState(s), queues: make([][]api.Event, inputs), last: make([]int64, inputs)}, api.OK
}

func cloneState(s api.TaskState) api.TaskState {
	return api.TaskState{State: oper.Clone(s.State), Buffers: cloneLists(s.Buffers)}
}

func cloneLists[E any](lists [][]E) [][]E {
	var c [][]E
	for _, l := range lists {
		c = append(c, slices.Clone(l))
	}
	return c
}

func (m *model) clone() *model {
	c := *m
	c.now, c.aside = cloneState(m.now), cloneState(m.aside)
	c.queues, c.last = cloneLists(m.queues), slices.Clone(m.last)
	return &c
}

func (m *model) feed(input int, e api.Event) api.Errno {
	if input < 0 || input >= len(m.queues) {
		return api.ErrArg
	}
	isRecord := e.Kind == 1 && e.Id == 0
	isBarrier := e.Kind == 2 && e.Record == api.Record{} && e.Id >= 1 && e.Id <= api.MaxNum
	if !isRecord && !isBarrier {
		return api.ErrArg
	}
	if len(m.queues[input]) == m.room {
		return api.ErrFull
	}
	if isBarrier && e.Id <= m.last[input] {
		return api.ErrPast
	}
	if isBarrier {
		m.last[input] = e.Id
	}
	m.queues[input] = append(m.queues[input], e)
	return api.OK
}

func (m *model) left(input int) int {
	if input < 0 || input >= len(m.queues) {
		return 0
	}
	return m.room - len(m.queues[input])
}

func roomAt(left []int, port int) int {
	if port < len(left) && left[port] > 0 {
		return left[port]
	}
	return 0
}

// step does what P10.2 tells, word by word.
func (m *model) step(left []int) ([]api.Out, bool) {
	if m.op.Kind == api.OpUnion {
		turn := m.now.State.Turn
		if b := m.now.Buffers[turn]; len(b) > 0 && roomAt(left, 0) >= 1 {
			m.now.Buffers[turn] = b[1:]
			m.now.State.Turn = turn + 1
			if turn == len(m.queues)-1 {
				m.now.State.Turn = 0
			}
			return []api.Out{{Port: 0, Event: api.Event{Kind: 1, Record: b[0]}}}, true
		}
		for i, q := range m.queues {
			if len(q) > 0 && q[0].Kind == 1 {
				m.now.Buffers[i] = append(m.now.Buffers[i], q[0].Record)
				m.queues[i] = q[1:]
				return nil, true
			}
		}
	} else if q := m.queues[0]; len(q) > 0 && q[0].Kind == 1 {
		return m.stepRecord(q[0].Record, left)
	}
	return m.stepBarrier(left)
}

func (m *model) stepRecord(r api.Record, left []int) ([]api.Out, bool) {
	state, puts := oper.Step(m.op, m.now.State, r)
	if m.op.Kind == api.OpSink {
		puts = []api.Put{{Port: 0, Record: r}}
	}
	var out []api.Out
	for _, p := range puts {
		out = append(out, api.Out{Port: p.Port, Event: api.Event{Kind: 1, Record: p.Record}})
	}
	for port := range 4 {
		goes := 0
		for _, p := range puts {
			if p.Port == port {
				goes++
			}
		}
		if goes > roomAt(left, port) {
			return nil, false
		}
	}
	m.queues[0] = m.queues[0][1:]
	m.now.State = state
	return out, true
}

func (m *model) stepBarrier(left []int) ([]api.Out, bool) {
	for _, q := range m.queues {
		if len(q) == 0 || q[0].Kind != 2 || q[0].Id != m.queues[0][0].Id {
			return nil, false
		}
	}
	var out []api.Out
	for port := range portsOf(m.op) {
		if roomAt(left, port) < 1 {
			return nil, false
		}
		out = append(out, api.Out{Port: port, Event: m.queues[0][0]})
	}
	m.passed, m.aside = out[0].Event.Id, cloneState(m.now)
	for i, q := range m.queues {
		m.queues[i] = q[1:]
	}
	return out, true
}

func sameState(a, b api.TaskState) bool {
	return oper.Same(a.State, b.State) && sameLists(a.Buffers, b.Buffers)
}

func sameLists[E comparable](a, b [][]E) bool {
	return slices.EqualFunc(a, b, func(x, y []E) bool { return slices.Equal(x, y) })
}

func sameTask(a, b api.Task) bool {
	return sameState(a.Now, b.Now) && sameLists(a.Queues, b.Queues)
}

// both is a task, and what the chapter tells of it: whatever is done to the one is done to the other one, and all that can be seen is held against each other behind it.
type both struct {
	*testing.T
	task  *task.Task
	model *model
}

// from is a task of From, which must take these.
func from(t *testing.T, o api.Op, room int, s api.TaskState) both {
	t.Helper()
	m, want := modelFrom(o, room, s)
	x, e := task.From(o, room, s)
	if e != api.OK || want != api.OK || x == nil {
		t.Fatalf("From(%v, %d, %v) = %v, %d; want %d", o, room, s, x, e, want)
	}
	b := both{t, x, m}
	b.check()
	return b
}

// fresh is a task of New, to whose inputs these are fed.
func fresh(t *testing.T, o api.Op, room int, inputs ...[]api.Event) both {
	t.Helper()
	s := api.TaskState{}
	if o.Kind == api.OpUnion {
		s.Buffers = make([][]api.Record, len(o.In))
	}
	m, want := modelFrom(o, room, s)
	x, e := task.New(o, room)
	if e != api.OK || want != api.OK || x == nil {
		t.Fatalf("New(%v, %d) = %v, %d; want %d", o, room, x, e, want)
	}
	b := both{t, x, m}
	b.check()
	for input, l := range inputs {
		for _, e := range l {
			b.mustFeed(input, e)
		}
	}
	return b
}

func (b both) clone() both {
	return both{b.T, b.task.Clone(), b.model.clone()}
}

// rooms is rooms at ports of many kinds.
func rooms() [][]int {
	return [][]int{
		nil, {0}, {-1}, {1}, {2}, {most}, {least, 1, 1, 1},
		{1, 1}, {0, 1}, {1, 0}, {1, -1}, {0, 0, 0, 1}, {1, 0, 1, 1}, {0, 1, 1, 1},
		{1, 1, 1}, {1, 1, 0}, {1, 1, 1, 1}, {1, 1, 1, 0}, {9, 9, 9, 9, 9, 9}, {0, 0, 0, 0, 7},
	}
}

// check holds all that can be seen of the task against the model.
func (b both) check() {
	b.Helper()
	m, x := b.model, b.task
	if got := x.Inputs(); got != len(m.queues) {
		b.Errorf("Inputs = %d; want %d", got, len(m.queues))
	}
	for _, input := range []int{least, -1, 0, 1, 2, 3, 4, 5, most} {
		if got := x.Left(input); got != m.left(input) {
			b.Errorf("Left(%d) = %d; want %d", input, got, m.left(input))
		}
	}
	if got, want := x.Plain(), (api.Task{Now: m.now, Queues: m.queues}); !sameTask(got, want) {
		b.Errorf("Plain = %v; want %v", got, want)
	}
	b.checkAside()
	for _, left := range rooms() {
		_, want := m.clone().step(left)
		if got := x.Can(left...); got != want {
			b.Errorf("Can(%v) = %v; want %v of %v", left, got, want, m)
		}
	}
}

func (b both) checkAside() {
	b.Helper()
	m, x := b.model, b.task
	if got := x.Passed(); got != m.passed {
		b.Errorf("Passed = %d; want %d", got, m.passed)
	}
	for _, id := range []int64{0, -1, 1, m.passed - 1, m.passed, m.passed + 1, -m.passed, api.MaxNum, most, least} {
		want, is := api.TaskState{}, id != 0 && id == m.passed
		if is {
			want = m.aside
		}
		if got, ok := x.Aside(id); ok != is || !sameState(got, want) {
			b.Errorf("Aside(%d) = %v, %v; want %v, %v", id, got, ok, want, is)
		}
	}
}

func (b both) feed(input int, e api.Event) api.Errno {
	b.Helper()
	want := b.model.feed(input, e)
	if got := b.task.Feed(input, e); got != want {
		b.Errorf("Feed(%d, %v) = %d; want %d", input, e, got, want)
	}
	b.check()
	return want
}

func (b both) mustFeed(input int, l ...api.Event) {
	b.Helper()
	for _, e := range l {
		if got := b.feed(input, e); got != api.OK {
			b.Errorf("Feed(%d, %v) = %d", input, e, got)
		}
	}
}

func (b both) step(left ...int) ([]api.Out, bool) {
	b.Helper()
	want, does := b.model.step(left)
	got, done := b.task.Step(left...)
	if done != does || !slices.Equal(got, want) {
		b.Errorf("Step(%v) = %v, %v; want %v, %v", left, got, done, want, does)
	}
	b.check()
	return want, does
}

// does steps, and holds what goes out against what must.
func (b both) does(left []int, want ...api.Out) {
	b.Helper()
	if out, done := b.step(left...); !done || !slices.Equal(out, want) {
		b.Errorf("Step(%v) = %v, %v; want %v", left, out, done, want)
	}
}

// stuck steps, and nothing may be done.
func (b both) stuck(left ...int) {
	b.Helper()
	if out, done := b.step(left...); done || out != nil {
		b.Errorf("Step(%v) = %v, %v; want nothing", left, out, done)
	}
}

// drain steps, with so much room, until nothing can be done: what went out.
func (b both) drain(left ...int) []api.Out {
	b.Helper()
	var all []api.Out
	for {
		out, done := b.step(left...)
		if !done || b.Failed() {
			return all
		}
		all = append(all, out...)
	}
}

// pick takes bytes one by one, and zeros behind their end.
type pick []byte

func (p *pick) below(n int) int {
	if len(*p) == 0 {
		return 0
	}
	b := (*p)[0]
	*p = (*p)[1:]
	return int(b) % n
}

func (p *pick) number() int64 {
	near := []int64{0, 1, 2, 3, 4, -1, -2, 5, most, least}
	return near[p.below(len(near))]
}

// op is any operator, mostly one that may be.
func (p *pick) op() api.Op {
	if p.below(8) > 0 {
		all := ops()
		return all[p.below(len(all))]
	}
	return api.Op{Kind: p.below(12) - 1, Fn: p.below(7) - 1, Arg: p.number(), In: make([]api.Edge, p.below(7))}
}

func (p *pick) room() int {
	all := []int{1, 2, 3, 4, 8, api.MaxQueue, api.MaxQueue + 1, 0, -1}
	if p.below(4) > 0 {
		return all[p.below(6)]
	}
	return all[p.below(len(all))]
}

// state is anything that a task of o may keep, and sometimes what it may not.
func (p *pick) state(o api.Op) api.TaskState {
	s := api.TaskState{}
	if o.Kind == api.OpUnion {
		for range o.In {
			s.Buffers = append(s.Buffers, p.records(p.below(4)))
		}
		s.State.Turn = p.below(len(o.In) + 1)
	}
	if o.Kind == api.OpFold || o.Kind == api.OpWindow {
		for key := range int64(p.below(4)) {
			s.State.Keys = append(s.State.Keys, api.KeyState{Key: key, Count: int64(1 + p.below(2)), Acc: p.number()})
		}
	}
	switch p.below(16) {
	case 0:
		s.Buffers = append(s.Buffers, p.records(p.below(2)))
	case 1:
		s.Buffers = s.Buffers[:max(0, len(s.Buffers)-1)]
	case 2:
		s.State.Turn += p.below(3) - 1
	case 3:
		s.State.Keys = append(s.State.Keys, api.KeyState{Key: p.number(), Count: p.number()})
	}
	return s
}

func (p *pick) records(count int) []api.Record {
	var l []api.Record
	for range count {
		l = append(l, api.Record{Key: p.number(), Val: p.number()})
	}
	return l
}

// event is any event, mostly one that may be; last is the last barrier's Id, near to which are those of others.
func (p *pick) event(last int64) api.Event {
	switch p.below(16) {
	case 0:
		return api.Event{Kind: p.below(4), Record: api.Record{Key: p.number()}, Id: p.number()}
	case 1:
		return bar(last)
	case 2, 3, 4:
		return bar(last + 1)
	case 5:
		return bar(last + int64(p.below(4)))
	}
	return rec(p.number(), p.number())
}

func (p *pick) left() []int {
	var left []int
	for range p.below(6) {
		left = append(left, []int{1, 0, 1, -1, 2, 5, 1, 1}[p.below(8)])
	}
	return left
}

// seen is how often what was answered.
type seen struct {
	from, feed map[api.Errno]int
	step       map[string]int
}

func newSeen() seen {
	return seen{map[api.Errno]int{}, map[api.Errno]int{}, map[string]int{}}
}

// walk does with a task what the bytes say, held against the model.
func (s seen) walk(t *testing.T, p *pick) {
	o, room := p.op(), p.room()
	state := p.state(o)
	_, want := modelFrom(o, room, state)
	s.from[want]++
	if want != api.OK {
		if x, e := task.From(o, room, state); x != nil || e != want {
			t.Errorf("From(%v, %d, %v) = %v, %d; want %d", o, room, state, x, e, want)
		}
		return
	}
	b := from(t, o, room, state)
	for len(*p) > 0 && !t.Failed() {
		switch p.below(16) {
		case 0, 1, 2, 3, 4, 5, 6:
			input := p.below(len(b.model.last)+2) - 1
			last := b.model.last[max(0, min(input, len(b.model.last)-1))]
			s.feed[b.feed(input, p.event(last))]++
		case 7, 8, 9, 10, 11:
			s.count(b.step(p.left()...))
		case 12, 13:
			s.count(b.step(1, 1, 1, 1))
		case 14:
			// The same barrier to all: so that some of them pass.
			id := slices.Max(b.model.last) + 1
			for input := range b.model.last {
				s.feed[b.feed(input, bar(id))]++
			}
		case 15:
			// From now on the clone is looked at; what is done to the other one must not be seen.
			c := b.clone()
			b.task.Feed(0, rec(1, 1))
			for range 3 {
				b.task.Step(1, 1, 1, 1)
			}
			b = c
			b.check()
		}
	}
}

func (s seen) count(out []api.Out, done bool) {
	switch {
	case !done:
		s.step["nothing"]++
	case len(out) == 0:
		s.step["nothing out"]++
	case out[0].Event.Kind == api.EvBarrier:
		s.step["a barrier"]++
	default:
		s.step["a record"]++
	}
}

func TestModel(t *testing.T) {
	r := rand.New(rand.NewSource(10))
	s := newSeen()
	for range 2000 {
		p := make(pick, 20+r.Intn(400))
		r.Read(p)
		s.walk(t, &p)
		if t.Failed() {
			return
		}
	}
	for _, e := range []api.Errno{api.OK, api.ErrArg, api.ErrState} {
		if s.from[e] < 50 {
			t.Errorf("From answered %v: too few of %d", s.from, e)
		}
	}
	for _, e := range []api.Errno{api.OK, api.ErrArg, api.ErrFull, api.ErrPast} {
		if s.feed[e] < 50 {
			t.Errorf("Feed answered %v: too few of %d", s.feed, e)
		}
	}
	for _, what := range []string{"nothing", "nothing out", "a record", "a barrier"} {
		if s.step[what] < 50 {
			t.Errorf("Step did %v: too few of %s", s.step, what)
		}
	}
}

func FuzzTask(f *testing.F) {
	f.Add([]byte{1, 16, 1, 2, 0, 0, 0, 9, 9, 9, 0, 1, 9, 1, 1, 12, 12, 12, 14, 12, 12, 12})
	f.Add([]byte{1, 10, 1, 3, 1, 1, 2, 0, 9, 9, 0, 1, 9, 1, 1, 7, 1, 0, 14, 12, 15, 12, 12})
	f.Fuzz(func(t *testing.T, b []byte) {
		p := pick(b)
		newSeen().walk(t, &p)
	})
}
