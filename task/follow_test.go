package task_test

import (
	"math/rand"
	"slices"
	"testing"

	"pontoon/api"
	"pontoon/graph"
	"pontoon/run"
	"pontoon/task"
)

// story is what came of a task: what went out of each port, what was set aside at each barrier, and all of it in the end.
type story struct {
	steps  int
	ports  [api.MaxPorts][]api.Event
	asides map[int64]api.TaskState
	end    api.Task
}

func (s story) same(o story) bool {
	for port := range s.ports {
		if !slices.Equal(s.ports[port], o.ports[port]) {
			return false
		}
	}
	for id, a := range s.asides {
		if b, is := o.asides[id]; !is || !sameState(a, b) {
			return false
		}
	}
	return len(s.asides) == len(o.asides) && sameTask(s.end, o.end)
}

// step steps a task with that room, and notes what comes of it; more than the room may not go out.
func (s *story) step(t *testing.T, x *task.Task, left ...int) bool {
	t.Helper()
	if s.steps++; s.steps > 100_000 {
		t.Fatalf("it goes on and on: %v", x.Plain())
	}
	before := x.Passed()
	can := x.Can(left...)
	out, done := x.Step(left...)
	if can != done {
		t.Errorf("Can(%v) = %v; Step: %v", left, can, done)
	}
	if !done && out != nil {
		t.Errorf("Step(%v) did nothing, and %v went out", left, out)
	}
	var went [api.MaxPorts]int
	for _, o := range out {
		went[o.Port]++
		if went[o.Port] > roomAt(left, o.Port) {
			t.Errorf("Step(%v): %v went out", left, out)
		}
		s.ports[o.Port] = append(s.ports[o.Port], o.Event)
	}
	if id := x.Passed(); id != before {
		s.asides[id], _ = x.Aside(id)
	}
	return done
}

// tell feeds these events to the inputs of a task: to which one next, how many steps are done behind it, and with which room, is handed in; where that comes to nothing, it is done with room enough.
func tell(t *testing.T, o api.Op, room int, inputs [][]api.Event, pickInput func([]int) int, steps func() int, left func() []int) story {
	t.Helper()
	x, e := task.New(o, room)
	if e != api.OK {
		t.Fatal(o, room, e)
	}
	s := story{asides: map[int64]api.TaskState{}}
	fed := make([]int, len(inputs))
	for !t.Failed() {
		var open []int
		for i, l := range inputs {
			if fed[i] < len(l) && x.Left(i) > 0 {
				open = append(open, i)
			}
		}
		if len(open) > 0 {
			i := pickInput(open)
			if e := x.Feed(i, inputs[i][fed[i]]); e != api.OK {
				t.Fatal("Feed", e)
			}
			fed[i]++
		}
		moved := len(open) > 0
		for range steps() {
			moved = s.step(t, x, left()...) || moved
		}
		if !moved && !s.step(t, x, 1, 1, 1, 1) {
			break
		}
	}
	for i, l := range inputs {
		if fed[i] < len(l) {
			t.Fatalf("%v: stuck with %v", o, x.Plain())
		}
	}
	s.end = x.Plain()
	return s
}

// eager takes all inputs in order, and steps as far as it can.
func eager(t *testing.T, o api.Op, room int, inputs [][]api.Event) story {
	t.Helper()
	first := func(open []int) int { return open[0] }
	return tell(t, o, room, inputs, first, func() int { return 3 }, full)
}

// lists makes events for each input: records with few keys, and the barriers ids among them, behind how many of the others by chance.
func lists(r *rand.Rand, inputs int, ids ...int64) [][]api.Event {
	l := make([][]api.Event, inputs)
	for i := range l {
		for _, id := range append(ids, 0) {
			for range r.Intn(7) {
				l[i] = append(l[i], rec(int64(r.Intn(6)-2), r.Int63()-r.Int63()))
			}
			if id > 0 {
				l[i] = append(l[i], bar(id))
			}
		}
	}
	return l
}

func inputsOf(o api.Op) int {
	if o.Kind == api.OpUnion {
		return len(o.In)
	}
	return 1
}

// TestP104WhoeverFeedsIt: with whatever room and in whatever order, it comes to the same.
func TestP104WhoeverFeedsIt(t *testing.T) {
	r := rand.New(rand.NewSource(104))
	for _, o := range ops() {
		for range 12 {
			inputs := lists(r, inputsOf(o), 2, 3, 9)
			want := eager(t, o, api.MaxQueue, inputs)
			if len(want.asides) != 3 {
				t.Errorf("%v: set aside at %v", o, want.asides)
			}
			for _, room := range []int{1, 2, 5, api.MaxQueue} {
				for range 4 {
					got := tell(t, o, room, inputs,
						func(open []int) int { return open[r.Intn(len(open))] },
						func() int { return r.Intn(4) },
						func() []int {
							return []int{r.Intn(4) - 1, r.Intn(3) - 1, r.Intn(2), r.Intn(2)}[:r.Intn(5)]
						})
					if !got.same(want) {
						t.Fatalf("%v, room %d, %v: %v; want %v", o, room, inputs, got, want)
					}
				}
			}
			// The last inputs first; and without any room till all is fed.
			last := func(open []int) int { return open[len(open)-1] }
			if got := tell(t, o, api.MaxQueue, inputs, last, func() int { return 0 }, full); !got.same(want) {
				t.Fatalf("%v, all fed first: %v; want %v", o, got, want)
			}
			if got := tell(t, o, api.MaxQueue, inputs, last, func() int { return 9 }, func() []int { return nil }); !got.same(want) {
				t.Fatalf("%v, no room: %v; want %v", o, got, want)
			}
		}
	}
}

// TestP105Backpressure: without room it keeps what waits; with room for one at a port no more goes out.
func TestP105Backpressure(t *testing.T) {
	for _, o := range ops() {
		if o.Kind == api.OpUnion {
			continue
		}
		for _, left := range [][]int{nil, {0}, {-1, -1, -1, -1}, {0, 0, 0, 0, 8}} {
			b := fresh(t, o, 5, []api.Event{rec(1, 1), rec(1, 1), rec(1, 1), bar(2), rec(5, 5)})
			if out := b.drain(left...); len(out) > 0 {
				t.Errorf("%v: without room %v went out", o, out)
			}
			if o.Kind != api.OpWindow && b.task.Left(0) != 0 {
				t.Errorf("%v: without room, Left %d", o, b.task.Left(0))
			}
		}
	}
	// A union keeps them in its buffers, but never lets one out.
	b := fresh(t, union(2), 2)
	for n := range int64(20) {
		b.mustFeed(0, rec(n, 0))
		b.mustFeed(1, rec(-n, 0))
		if out := b.drain(0, 5); len(out) > 0 {
			t.Errorf("without room %v went out", out)
		}
	}
	if p := b.task.Plain(); len(p.Now.Buffers[0]) != 20 || len(p.Now.Buffers[1]) != 20 {
		t.Errorf("it keeps %v", p)
	}
	// A step lets at most one out of a port, however much room there is.
	for out, done := b.step(full()...); done; out, done = b.step(full()...) {
		if len(out) > 1 {
			t.Errorf("%v went out at once", out)
		}
	}
}

// graphOf is a graph in which o does its work, its number there, and how many partitions it has.
func graphOf(t *testing.T, o api.Op) (api.Graph, int) {
	g := api.Graph{Parts: inputsOf(o)}
	for part := range g.Parts {
		g.Ops = append(g.Ops, api.Op{Kind: api.OpSource, Part: part})
	}
	at := 0
	if o.Kind != api.OpSource {
		o.In = nil
		for part := range g.Parts {
			o.In = append(o.In, api.Edge{From: part})
		}
		at = len(g.Ops)
		g.Ops = append(g.Ops, o)
	}
	last := api.Edge{From: at}
	if o.Kind == api.OpRoute {
		u := api.Op{Kind: api.OpUnion}
		for port := range portsOf(o) {
			u.In = append(u.In, api.Edge{From: at, Port: port})
		}
		last = api.Edge{From: len(g.Ops)}
		g.Ops = append(g.Ops, u)
	}
	if o.Kind != api.OpSink {
		g.Ops = append(g.Ops, api.Op{Kind: api.OpSink, In: []api.Edge{last}})
	}
	if n, e := graph.Check(g); e != api.OK {
		t.Fatal(g, n, e)
	}
	return g, at
}

// upto is the records of each input ahead of that barrier (of all of them, if there is none).
func upto(inputs [][]api.Event, id int64) [][]api.Record {
	l := make([][]api.Record, len(inputs))
	for i, events := range inputs {
		for _, e := range events {
			if e == bar(id) {
				break
			}
			if e.Kind == api.EvRecord {
				l[i] = append(l[i], e.Record)
			}
		}
	}
	return l
}

// ahead is the records ahead of that barrier in what went out of a port.
func ahead(events []api.Event, id int64) []api.Record {
	return upto([][]api.Event{events}, id)[0]
}

// wanted is what run tells of an operator: what comes out of each port, and what it keeps.
func wanted(t *testing.T, o api.Op, prefixes [][]api.Record) ([][]api.Record, api.TaskState) {
	t.Helper()
	g, at := graphOf(t, o)
	ports, e := run.Ports(g, at, prefixes...)
	if e != api.OK {
		t.Fatal(o, e)
	}
	if o.Kind == api.OpSink {
		out, _ := run.Run(g, prefixes...)
		ports = [][]api.Record{out}
	}
	states, e := run.States(g, prefixes...)
	if e != api.OK {
		t.Fatal(o, e)
	}
	return ports, states[at]
}

// TestP106ItIsTheOperator: ahead of each barrier there is what run tells of the records ahead of it, and that is set aside.
func TestP106ItIsTheOperator(t *testing.T) {
	r := rand.New(rand.NewSource(106))
	for _, o := range ops() {
		if o.Kind == api.OpWindow && o.Arg == 1 {
			o.Arg = 4
		}
		for range 30 {
			inputs := lists(r, inputsOf(o), 1, 5)
			s := eager(t, o, 1+r.Intn(api.MaxQueue), inputs)
			for _, id := range []int64{1, 5, 0} {
				ports, keeps := wanted(t, o, upto(inputs, id))
				for port := range portsOf(o) {
					if got := ahead(s.ports[port], id); !slices.Equal(got, ports[port]) {
						t.Errorf("%v, %v: ahead of %d %v went out of %d; want %v", o, inputs, id, got, port, ports[port])
					}
				}
				got := s.end.Now
				if id > 0 {
					got = s.asides[id]
				}
				if !sameState(got, keeps) {
					t.Errorf("%v, %v: at %d it keeps %v; want %v", o, inputs, id, got, keeps)
				}
			}
			for port := portsOf(o); port < api.MaxPorts; port++ {
				if len(s.ports[port]) > 0 {
					t.Errorf("%v: %v went out of %d", o, s.ports[port], port)
				}
			}
		}
	}
}

// TestP106GoesOn: a task of what was set aside goes on as the one that set it aside does.
func TestP106GoesOn(t *testing.T) {
	r := rand.New(rand.NewSource(107))
	for _, o := range ops() {
		for range 10 {
			inputs := lists(r, inputsOf(o), 4)
			whole := eager(t, o, api.MaxQueue, inputs)
			x, e := task.From(o, api.MaxQueue, whole.asides[4])
			if e != api.OK {
				t.Fatalf("From(%v, %v): %d", o, whole.asides[4], e)
			}
			s := story{asides: map[int64]api.TaskState{}}
			for i, l := range inputs {
				for _, e := range l[slices.Index(l, bar(4))+1:] {
					if x.Feed(i, e) != api.OK {
						t.Fatal("Feed")
					}
				}
			}
			for s.step(t, x, 1, 1, 1, 1) {
				continue
			}
			for port, l := range whole.ports {
				if behind := l[slices.Index(l, bar(4))+1:]; !slices.Equal(s.ports[port], behind) {
					t.Errorf("%v: behind the barrier %v; want %v", o, s.ports[port], behind)
				}
			}
			if got := x.Plain(); !sameTask(got, whole.end) {
				t.Errorf("%v: in the end %v; want %v", o, got, whole.end)
			}
		}
	}
}
