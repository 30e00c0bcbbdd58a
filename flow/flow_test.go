package flow_test

import (
	"slices"
	"testing"

	"pontoon/api"
	"pontoon/flow"
	"pontoon/graph"
)

// checkRefused holds From against that error.
func checkRefused(t *testing.T, want api.Errno, g api.Graph, room int, s api.FlowState) {
	t.Helper()
	if f, e := flow.From(g, room, s); f != nil || e != want {
		t.Errorf("From(%v, %d, %v) = %v, %d; want %d", g, room, s, f, e, want)
	}
}

func checkNewRefused(t *testing.T, want api.Errno, g api.Graph, room int) {
	t.Helper()
	if f, e := flow.New(g, room); f != nil || e != want {
		t.Errorf("New(%v, %d) = %v, %d; want %d", g, room, f, e, want)
	}
}

// badGraphs are graphs that graph.Check refuses, with its errors.
func badGraphs(t *testing.T) map[api.Errno][]api.Graph {
	long := of(1, source(0))
	for n := range api.MaxOps - 1 {
		long.Ops = append(long.Ops, api.Op{Kind: api.OpMap, Fn: api.FnNeg, In: in(n)})
	}
	long.Ops = append(long.Ops, sink(api.MaxOps-1))
	bad := map[api.Errno][]api.Graph{
		api.ErrArg:   {{}, of(0, source(0), sink(0)), of(-1, source(0), sink(0)), of(api.MaxParts+1, source(0), sink(0)), of(most, source(0), sink(0)), of(least)},
		api.ErrLong:  {long},
		api.ErrKind:  {of(1, source(0), api.Op{Kind: 10, In: in(0)}, sink(1)), of(1, api.Op{})},
		api.ErrField: {of(1, source(1), sink(0)), of(1, source(0), api.Op{Kind: api.OpRoute, Arg: 5, In: in(0)}, sink(1))},
		api.ErrEdge:  {of(1, source(0), sink(1)), of(1, source(0), api.Op{Kind: api.OpUnion, In: in(0)}, sink(1)), of(1, source(0), sink(-1))},
		api.ErrTaken: {of(1, source(0), api.Op{Kind: api.OpUnion, In: in(0, 0)}, sink(1))},
		api.ErrLoose: {of(1, source(0)), of(2, source(0), source(1), sink(0))},
		api.ErrPart:  {of(2, source(0), sink(0)), of(1), of(4, source(0), sink(0))},
		api.ErrSink:  {of(2, source(0), source(1), sink(0), sink(1))},
	}
	for want, l := range bad {
		for _, g := range l {
			if _, e := graph.Check(g); e != want {
				t.Fatalf("graph.Check(%v) = %d; want %d", g, e, want)
			}
		}
	}
	return bad
}

// states are some that fit g, and some that do not fit any graph.
func states(g api.Graph) []api.FlowState {
	parts := min(max(g.Parts, 0), 9)
	return []api.FlowState{{}, nothing(api.Graph{Parts: parts, Ops: g.Ops}), {Id: -1}, {Out: -1}, {Vector: make([]int64, 9)}, {Tasks: make([]api.TaskState, 2)}}
}

func TestP111Graphs(t *testing.T) {
	for want, l := range badGraphs(t) {
		for _, g := range l {
			// A graph that may not be counts first, whatever else there is.
			for _, room := range []int{1, api.MaxQueue, 0, -1, api.MaxQueue + 1, least} {
				checkNewRefused(t, want, g, room)
				for _, s := range states(g) {
					checkRefused(t, want, g, room, s)
				}
			}
		}
	}
	for _, g := range []api.Graph{short(), two(), wide()} {
		fresh(t, g, 2).checkAll()
		from(t, g, 2, nothing(g)).checkAll()
	}
}

// TestP111Rooms: with the sink at rest, so many events come to its input, and so many stay at the source's.
func TestP111Rooms(t *testing.T) {
	g := short()
	for _, room := range []int{1, 2, 3, api.MaxQueue - 1, api.MaxQueue} {
		for _, b := range []both{fresh(t, g, room), from(t, g, room, nothing(g))} {
			b.answers(b.feed(0, count(3*room)...), api.OK)
			done := 0
			for b.step(0) {
				done++
			}
			if done != 2*room {
				t.Errorf("room %d: the source did %d steps", room, done)
			}
			// The sink takes one: one goes there, and then one more comes to the source's input.
			b.does(1, 0, 0)
			b.stuck(0)
		}
	}
	for _, g := range []api.Graph{short(), two(), wide()} {
		for _, room := range []int{0, -1, api.MaxQueue + 1, -api.MaxQueue, 1<<32 + 1, most, least} {
			checkNewRefused(t, api.ErrArg, g, room)
			// Room counts ahead of the state.
			for _, s := range append(states(g), nothing(g)) {
				checkRefused(t, api.ErrArg, g, room, s)
			}
		}
	}
}

func TestP111Numbers(t *testing.T) {
	for _, g := range []api.Graph{short(), two(), wide()} {
		for _, n := range []int64{0, 1, api.MaxNum - 1, api.MaxNum} {
			s := nothing(g)
			s.Id = n
			if b := from(t, g, 2, s); b.flow.Passed() != n {
				t.Errorf("Passed = %d; want %d", b.flow.Passed(), n)
			}
			s = nothing(g)
			s.Out = n
			b := from(t, g, 2, s)
			if b.flow.Base() != n || b.flow.Count() != n {
				t.Errorf("Base %d, Count %d; want %d", b.flow.Base(), b.flow.Count(), n)
			}
			b.checkAll()
			for part := range g.Parts {
				s = nothing(g)
				s.Vector[part] = n
				if b := from(t, g, 2, s); !slices.Equal(b.flow.Fed(), s.Vector) {
					t.Errorf("Fed = %v; want %v", b.flow.Fed(), s.Vector)
				}
			}
		}
		for _, n := range []int64{-1, api.MaxNum + 1, -api.MaxNum, most, least} {
			s := nothing(g)
			s.Id = n
			checkRefused(t, api.ErrState, g, 2, s)
			s = nothing(g)
			s.Out = n
			checkRefused(t, api.ErrState, g, 2, s)
			for part := range g.Parts {
				s = nothing(g)
				s.Vector[part] = n
				checkRefused(t, api.ErrState, g, 2, s)
			}
		}
	}
}

func TestP111HowMany(t *testing.T) {
	for _, g := range []api.Graph{short(), two(), wide()} {
		checkRefused(t, api.ErrState, g, 2, api.FlowState{})
		for _, off := range []int{-1, 1, 3} {
			s := nothing(g)
			s.Vector = make([]int64, g.Parts+off)
			checkRefused(t, api.ErrState, g, 2, s)
			s = nothing(g)
			s.Tasks = append(s.Tasks, make([]api.TaskState, 3)...)[:len(g.Ops)+off]
			checkRefused(t, api.ErrState, g, 2, s)
		}
		s := nothing(g)
		s.Vector = nil
		checkRefused(t, api.ErrState, g, 2, s)
		s = nothing(g)
		s.Tasks = nil
		checkRefused(t, api.ErrState, g, 2, s)
	}
}

// TestP111Tasks: whatever task.From says of a task's state, From says ErrState.
func TestP111Tasks(t *testing.T) {
	g := wide()
	one := api.KeyState{Key: 1, Count: 1, Acc: 7}
	for n, o := range g.Ops {
		refused := func(kept api.TaskState) {
			t.Helper()
			s := nothing(g)
			s.Tasks[n] = kept
			checkRefused(t, api.ErrState, g, 2, s)
		}
		plain := nothing(g).Tasks[n]
		for _, turn := range []int{-1, 4, 5, most, least} {
			kept := cloneTask(plain)
			kept.State.Turn = turn
			refused(kept)
		}
		refused(api.TaskState{State: plain.State, Buffers: append(slices.Clone(plain.Buffers), nil)})
		switch o.Kind {
		case api.OpUnion:
			refused(api.TaskState{})
			refused(api.TaskState{Buffers: plain.Buffers[1:]})
			for turn := range 4 {
				s := nothing(g)
				s.Tasks[n] = api.TaskState{State: api.OpState{Turn: turn}, Buffers: [][]api.Record{count(2), nil, count(1), {}}}
				from(t, g, 1, s).drain()
			}
		case api.OpFold:
			s := nothing(g)
			s.Tasks[n].State.Keys = []api.KeyState{one, {Key: 2, Count: api.MaxNum}}
			from(t, g, 1, s)
			refused(api.TaskState{State: api.OpState{Keys: []api.KeyState{{Key: 1, Count: api.MaxNum + 1}}}})
			refused(api.TaskState{State: api.OpState{Keys: []api.KeyState{one, one}}})
		case api.OpWindow:
			s := nothing(g)
			s.Tasks[n].State.Keys = []api.KeyState{one}
			from(t, g, 1, s)
			refused(api.TaskState{State: api.OpState{Keys: []api.KeyState{{Key: 1, Count: 2}}}})
			refused(api.TaskState{State: api.OpState{Keys: []api.KeyState{{Key: 1, Count: 0}}}})
		default:
			refused(api.TaskState{State: api.OpState{Keys: []api.KeyState{one}}})
		}
	}
}

// TestP111Kept: the tasks go on from what they kept, and nothing waits.
func TestP111Kept(t *testing.T) {
	g := of(2,
		source(0), source(1),
		api.Op{Kind: api.OpFold, Fn: api.FnSum, In: in(0)},
		api.Op{Kind: api.OpWindow, Fn: api.FnSum, Arg: 2, In: in(1)},
		api.Op{Kind: api.OpUnion, In: in(2, 3)},
		sink(4),
	)
	s := nothing(g)
	s.Id, s.Out, s.Vector = 6, 40, []int64{10, 20}
	s.Tasks[2].State.Keys = []api.KeyState{{Key: 1, Count: 4, Acc: 100}}
	s.Tasks[3].State.Keys = []api.KeyState{{Key: 1, Count: 1, Acc: 1000}}
	s.Tasks[4] = api.TaskState{State: api.OpState{Turn: 1}, Buffers: [][]api.Record{{rec(9, 9)}, nil}}
	b := from(t, g, 2, s)
	b.stuck(0, 1, 2, 3, 4, 5)
	b.answers(b.feed(0, rec(1, 5)), api.OK)
	b.answers(b.feed(1, rec(1, 6)), api.OK)
	b.drain()
	places, records := told(b.flow.Out(0))
	if !slices.Equal(places, []int64{40, 41}) || !slices.Equal(records, []api.Record{rec(1, 1006), rec(9, 9)}) {
		t.Errorf("%v and %v came out", places, records)
	}
	if fed := b.flow.Fed(); !slices.Equal(fed, []int64{11, 21}) {
		t.Errorf("Fed = %v", fed)
	}
	b.answers(b.barrier(6), api.ErrPast)
	b.answers(b.barrier(7), api.OK)
	// A buffer with which the flow begins is handled, too.
	s.Tasks[4].State.Turn = 0
	b = from(t, g, 2, s)
	b.does(4)
	b.does(5)
	b.stuck(0, 1, 2, 3, 4, 5)
}

func TestP112Feed(t *testing.T) {
	for _, g := range []api.Graph{short(), two(), wide()} {
		b := fresh(t, g, 2)
		for _, part := range []int{-1, g.Parts, g.Parts + 1, api.MaxParts, least, most} {
			for _, n := range []int{0, 1, api.MaxFeed, api.MaxFeed + 1} {
				b.answers(b.feed(part, count(n)...), api.ErrArg)
			}
		}
		last := g.Parts - 1
		b.answers(b.feed(last), api.OK)
		b.answers(b.feed(last, []api.Record{}...), api.OK)
		b.stuck(0)
		b.answers(b.feed(last, count(api.MaxFeed+1)...), api.ErrLong)
		b.answers(b.feed(last, count(3*api.MaxFeed)...), api.ErrLong)
		b.answers(b.feed(last, count(api.MaxFeed-1)...), api.OK)
		b.answers(b.feed(last, count(2)...), api.ErrLong)
		b.answers(b.feed(last, rec(1, 1)), api.OK)
		b.answers(b.feed(last, rec(1, 1)), api.ErrLong)
		b.answers(b.feed(last), api.OK)
		for part := range last {
			// What waits elsewhere counts for nothing.
			b.answers(b.feed(part, count(api.MaxFeed)...), api.OK)
			b.answers(b.feed(part, rec(1, 1)), api.ErrLong)
		}
		// What was taken makes room.
		n, _ := graph.Source(g, last)
		b.does(n)
		b.answers(b.feed(last, count(2)...), api.ErrLong)
		b.answers(b.feed(last, rec(8, 8)), api.OK)
		b.answers(b.feed(last, rec(8, 8)), api.ErrLong)
		if fed := b.flow.Fed(); fed[last] != api.MaxFeed+1 {
			t.Errorf("Fed = %v", fed)
		}
		b.drain()
		b.answers(b.feed(last, count(api.MaxFeed+1)...), api.ErrLong)
		b.answers(b.feed(last, count(api.MaxFeed)...), api.OK)
	}
}

// TestP112FeedBehindBarrier: a barrier that waits counts among the events.
func TestP112FeedBehindBarrier(t *testing.T) {
	b := fresh(t, two(), 2)
	b.answers(b.feed(1, count(10)...), api.OK)
	b.answers(b.barrier(3), api.OK)
	b.answers(b.feed(1, count(api.MaxFeed-10)...), api.ErrLong)
	b.answers(b.feed(1, count(api.MaxFeed-11)...), api.OK)
	b.answers(b.feed(0, count(api.MaxFeed)...), api.ErrLong)
	b.answers(b.feed(0, count(api.MaxFeed-1)...), api.OK)
	b.answers(b.feed(0, rec(1, 1)), api.ErrLong)
	b.drain()
	if s, ok := b.flow.Snap(); !ok || !slices.Equal(s.Vector, []int64{0, 10}) {
		t.Errorf("Snap = %v, %v", s, ok)
	}
}

func TestP112FeedFull(t *testing.T) {
	g := two()
	s := nothing(g)
	s.Vector = []int64{5, api.MaxNum - 3}
	b := from(t, g, 2, s)
	b.answers(b.feed(1, count(4)...), api.ErrFull)
	b.answers(b.feed(1, count(api.MaxFeed)...), api.ErrFull)
	// More than may wait counts first.
	b.answers(b.feed(1, count(api.MaxFeed+1)...), api.ErrLong)
	b.answers(b.feed(1, count(2)...), api.OK)
	b.answers(b.feed(1, count(2)...), api.ErrFull)
	b.answers(b.feed(1, rec(1, 1)), api.OK)
	b.answers(b.feed(1, rec(1, 1)), api.ErrFull)
	b.answers(b.feed(1), api.OK)
	b.answers(b.feed(0, count(8)...), api.OK)
	b.drain()
	b.answers(b.feed(1, rec(1, 1)), api.ErrFull)
	if fed := b.flow.Fed(); !slices.Equal(fed, []int64{13, api.MaxNum}) {
		t.Errorf("Fed = %v", fed)
	}
	s.Vector = []int64{api.MaxNum, api.MaxNum}
	b = from(t, g, 2, s)
	b.answers(b.feed(0, rec(1, 1)), api.ErrFull)
	b.answers(b.feed(0), api.OK)
	b.answers(b.barrier(1), api.OK)
	b.drain()
}

// TestP112Order: they wait behind all others, call by call.
func TestP112Order(t *testing.T) {
	b := fresh(t, short(), 3)
	b.answers(b.feed(0, rec(1, 1), rec(2, 2)), api.OK)
	b.answers(b.feed(0, rec(3, 3)), api.OK)
	b.does(0, 0)
	b.answers(b.barrier(1), api.OK)
	b.answers(b.feed(0, rec(4, 4), rec(5, 5)), api.OK)
	b.drain()
	_, records := told(b.flow.Out(0))
	if !slices.Equal(records, []api.Record{rec(1, 1), rec(2, 2), rec(3, 3), rec(4, 4), rec(5, 5)}) {
		t.Errorf("%v came out", records)
	}
	if s, ok := b.flow.Snap(); !ok || s.Out != 3 || s.Vector[0] != 3 {
		t.Errorf("Snap = %v, %v", s, ok)
	}
}

func TestP112Barrier(t *testing.T) {
	wrong := []int64{0, -1, api.MaxNum + 1, -api.MaxNum, most, least}
	for _, g := range []api.Graph{short(), two(), wide()} {
		b := fresh(t, g, 1)
		refuses := func(want api.Errno, ids ...int64) {
			t.Helper()
			for _, id := range ids {
				b.answers(b.barrier(id), want)
			}
		}
		refuses(api.ErrArg, wrong...)
		b.answers(b.barrier(5), api.OK)
		// While one is on its way: no other one, be it above it, below it, or the same.
		refuses(api.ErrBarrier, 1, 4, 5, 6, api.MaxNum)
		refuses(api.ErrArg, wrong...)
		for op := range g.Ops {
			refuses(api.ErrBarrier, 6)
			b.does(op)
		}
		if b.flow.Passed() != 5 {
			t.Errorf("Passed = %d", b.flow.Passed())
		}
		refuses(api.ErrPast, 1, 4, 5)
		refuses(api.ErrArg, wrong...)
		b.answers(b.barrier(6), api.OK)
		b.drain()
		refuses(api.ErrPast, 1, 5, 6)
		b.answers(b.barrier(api.MaxNum), api.OK)
		b.drain()
		refuses(api.ErrPast, 1, 7, api.MaxNum)
		refuses(api.ErrArg, wrong...)
	}
}

func TestP112BarrierFull(t *testing.T) {
	g := two()
	for part := range g.Parts {
		b := fresh(t, g, 1)
		b.answers(b.feed(part, count(api.MaxFeed)...), api.OK)
		b.answers(b.barrier(0), api.ErrArg)
		b.answers(b.barrier(4), api.ErrLong)
		// None was put, neither ahead of the other source.
		b.stuck(1 - part)
		b.does(part)
		b.answers(b.barrier(4), api.OK)
		// One that is on its way counts first.
		b.answers(b.barrier(5), api.ErrBarrier)
		b.answers(b.feed(part), api.OK)
		b.answers(b.feed(part, rec(1, 1)), api.ErrLong)
		b.drain()
		b.answers(b.feed(part, count(api.MaxFeed)...), api.OK)
		// One that was passed counts first.
		b.answers(b.barrier(4), api.ErrPast)
		b.answers(b.barrier(5), api.ErrLong)
		b.drain()
		b.answers(b.barrier(5), api.OK)
	}
	// The events that wait may be a barrier and records behind it.
	b := fresh(t, g, 1)
	b.answers(b.barrier(4), api.OK)
	b.answers(b.feed(0, count(api.MaxFeed-1)...), api.OK)
	b.answers(b.barrier(5), api.ErrBarrier)
}

// TestP112BarrierFrom: the barrier of the state that a flow came from was passed.
func TestP112BarrierFrom(t *testing.T) {
	s := nothing(two())
	s.Id = 8
	b := from(t, two(), 1, s)
	b.answers(b.barrier(1), api.ErrPast)
	b.answers(b.barrier(8), api.ErrPast)
	b.answers(b.barrier(9), api.OK)
	b.answers(b.barrier(8), api.ErrBarrier)
	s.Id = api.MaxNum
	b = from(t, two(), 1, s)
	b.answers(b.barrier(api.MaxNum), api.ErrPast)
	b.answers(b.barrier(api.MaxNum+1), api.ErrArg)
}

// TestP112ItsVector: what is fed behind a barrier has no part in it, though the barrier has not gone a step yet.
func TestP112ItsVector(t *testing.T) {
	b := fresh(t, two(), 2)
	b.answers(b.feed(0, count(2)...), api.OK)
	b.answers(b.feed(1, count(5)...), api.OK)
	b.answers(b.barrier(1), api.OK)
	b.answers(b.feed(0, count(7)...), api.OK)
	b.answers(b.feed(1, count(1)...), api.OK)
	b.drain()
	s, ok := b.flow.Snap()
	if !ok || !slices.Equal(s.Vector, []int64{2, 5}) || s.Out != 4 || !slices.Equal(b.flow.Fed(), []int64{9, 6}) || b.flow.Count() != 13 {
		t.Errorf("Snap = %v, %v, Fed %v, Count %d", s, ok, b.flow.Fed(), b.flow.Count())
	}
}

func TestP114OfNewAndFrom(t *testing.T) {
	g := wide()
	b := fresh(t, g, 1)
	if f := b.flow; !slices.Equal(f.Fed(), []int64{0, 0}) || f.Base() != 0 || f.Count() != 0 || f.Passed() != 0 {
		t.Errorf("of New: %v, %d, %d, %d", f.Fed(), f.Base(), f.Count(), f.Passed())
	}
	s := nothing(g)
	s.Id, s.Out, s.Vector = 3, 17, []int64{4, api.MaxNum}
	b = from(t, g, 1, s)
	if f := b.flow; !slices.Equal(f.Fed(), []int64{4, api.MaxNum}) || f.Base() != 17 || f.Count() != 17 || f.Passed() != 3 {
		t.Errorf("of From: %v, %d, %d, %d", f.Fed(), f.Base(), f.Count(), f.Passed())
	}
	b.answers(b.feed(0, count(30)...), api.OK)
	if f := b.flow; !slices.Equal(f.Fed(), []int64{34, api.MaxNum}) || f.Base() != 17 || f.Count() != 17 {
		t.Errorf("fed: %v, %d, %d", f.Fed(), f.Base(), f.Count())
	}
	b.drain()
	if f := b.flow; f.Base() != 17 || f.Passed() != 3 {
		t.Errorf("drained: %d, %d", f.Base(), f.Passed())
	}
}

func TestP114Out(t *testing.T) {
	g := short()
	for _, base := range []int64{0, 1, 100, api.MaxNum} {
		s := nothing(g)
		s.Out = base
		b := from(t, g, 4, s)
		b.checkAll()
		b.answers(b.feed(0, count(10)...), api.OK)
		b.drain()
		for from := base - 2; from < base+13; from++ {
			b.checkOut(from)
		}
		places, records := told(b.flow.Out(base + 7))
		if !slices.Equal(places, []int64{base + 7, base + 8, base + 9}) || !slices.Equal(records, count(10)[7:]) {
			t.Errorf("Out(%d) tells %v, %v", base+7, places, records)
		}
		for _, from := range []int64{least, -1, 0, base - 1, base} {
			if places, records := told(b.flow.Out(from)); len(places) != 10 || places[0] != base || !slices.Equal(records, count(10)) {
				t.Errorf("Out(%d) tells %v, %v", from, places, records)
			}
		}
		for _, from := range []int64{base + 10, base + 11, most} {
			if places, _ := told(b.flow.Out(from)); places != nil {
				t.Errorf("Out(%d) tells %v", from, places)
			}
		}
	}
}

// TestP114OutStops: a range over it may stop at any point, and be done again.
func TestP114OutStops(t *testing.T) {
	b := fresh(t, short(), 4)
	b.answers(b.feed(0, count(9)...), api.OK)
	b.drain()
	for from := range int64(11) {
		l := b.flow.Out(from)
		for stop := range 10 {
			n := int64(0)
			for place, r := range l {
				if place != from+n || r != count(9)[place] {
					t.Errorf("Out(%d) tells %v at %d", from, r, place)
				}
				if n++; n > int64(stop) {
					break
				}
			}
			if n != min(int64(stop)+1, max(9-from, 0)) {
				t.Errorf("Out(%d), stopped behind %d, told %d", from, stop, n)
			}
		}
		if places, _ := told(l); int64(len(places)) != max(9-from, 0) {
			t.Errorf("Out(%d) tells %v in the end", from, places)
		}
	}
}

func TestP114Snap(t *testing.T) {
	b := fresh(t, two(), 2)
	none := func() {
		t.Helper()
		if s, ok := b.flow.Snap(); ok || s.Id != 0 || s.Out != 0 || s.Vector != nil || s.Tasks != nil {
			t.Errorf("Snap = %v, %v", s, ok)
		}
	}
	some := func(want api.FlowState) {
		t.Helper()
		if s, ok := b.flow.Snap(); !ok || !sameState(s, want) {
			t.Errorf("Snap = %v, %v; want %v", s, ok, want)
		}
	}
	keeps := func(turn int, buffers ...[]api.Record) []api.TaskState {
		return []api.TaskState{{}, {}, {State: api.OpState{Turn: turn}, Buffers: buffers}, {}}
	}
	none()
	b.feed(0, count(3)...)
	b.feed(1, count(1)...)
	none()
	b.drain()
	none()
	b.answers(b.barrier(4), api.OK)
	b.feed(1, rec(7, 7))
	none()
	for _, op := range []int{0, 1, 2} {
		b.does(op)
		none()
	}
	b.does(3)
	// The last record came out when the sink had let the barrier out.
	first := api.FlowState{Id: 4, Vector: []int64{3, 1}, Out: 3, Tasks: keeps(1, count(3)[2:], nil)}
	some(first)
	b.drain()
	some(first)
	b.feed(0, rec(8, 8))
	b.drain()
	some(first)
	b.answers(b.barrier(4), api.ErrPast)
	b.answers(b.barrier(0), api.ErrArg)
	some(first)
	b.answers(b.barrier(9), api.OK)
	none()
	b.does(0, 1, 2)
	none()
	b.does(3)
	second := api.FlowState{Id: 9, Vector: []int64{4, 2}, Out: 5, Tasks: keeps(1, []api.Record{rec(8, 8)}, nil)}
	some(second)
	// A flow of From has none ahead of its first barrier, though it has passed one.
	b = from(t, two(), 1, second)
	none()
	b.feed(1, rec(3, 3))
	b.drain()
	none()
	b.answers(b.barrier(9), api.ErrPast)
	none()
	b.answers(b.barrier(10), api.OK)
	none()
	b.drain()
	some(api.FlowState{Id: 10, Vector: []int64{4, 3}, Out: 7, Tasks: keeps(1, nil, nil)})
}

// TestP114SnapOut: Out is Count when the barrier comes out of the sink, not when it was put, nor when one asks.
func TestP114SnapOut(t *testing.T) {
	g := short()
	s := nothing(g)
	s.Out = 100
	b := from(t, g, 2, s)
	b.feed(0, count(2)...)
	b.does(0, 0)
	b.answers(b.barrier(1), api.OK)
	b.feed(0, count(4)...)
	b.drain()
	if s, ok := b.flow.Snap(); !ok || s.Out != 102 || b.flow.Count() != 106 {
		t.Errorf("Snap = %v, %v, Count %d", s, ok, b.flow.Count())
	}
}

// TestExample is the chapter's.
func TestExample(t *testing.T) {
	g := of(1, source(0), api.Op{Kind: api.OpWindow, Fn: api.FnSum, Arg: 2, In: in(0)}, sink(1))
	for _, room := range []int{1, 4, api.MaxQueue} {
		b := fresh(t, g, room)
		b.answers(b.feed(0, rec(0, 3), rec(0, 4), rec(0, 5)), api.OK)
		b.answers(b.barrier(1), api.OK)
		b.drain()
		want := api.FlowState{Id: 1, Vector: []int64{3}, Out: 1, Tasks: []api.TaskState{{}, {State: api.OpState{Keys: []api.KeyState{{Count: 1, Acc: 5}}}}, {}}}
		if s, ok := b.flow.Snap(); !ok || !sameState(s, want) || b.flow.Count() != 1 {
			t.Errorf("Snap = %v, %v, Count %d", s, ok, b.flow.Count())
		}
		if _, records := told(b.flow.Out(0)); !slices.Equal(records, []api.Record{rec(0, 7)}) {
			t.Errorf("%v came out", records)
		}
	}
}
