package flow_test

import (
	"slices"
	"testing"

	"pontoon/api"
)

func TestP113NoSuchOperator(t *testing.T) {
	for _, g := range []api.Graph{short(), two(), wide()} {
		b := fresh(t, g, 2)
		for part := range g.Parts {
			b.feed(part, count(5)...)
		}
		b.stuck(least, -1, len(g.Ops), len(g.Ops)+1, api.MaxOps, most)
		b.stuck(len(g.Ops) - 1)
		b.does(0)
	}
}

// TestP113Source: with and without what waits ahead of it, with and without room at its input and behind it.
func TestP113Source(t *testing.T) {
	b := fresh(t, short(), 1)
	b.stuck(0)
	b.answers(b.feed(0, count(3)...), api.OK)
	// One goes through the source at once.
	b.does(0)
	// One is fed to it, and stays at its input.
	b.does(0)
	// One waits ahead of it, but nowhere there is room.
	b.stuck(0, 0)
	b.does(1)
	// Its input has no room yet when the step begins: that one goes on, and none is fed.
	b.does(0)
	b.does(0)
	b.stuck(0)
	b.does(1)
	// Nothing waits ahead of it, but at its input.
	b.does(0)
	b.stuck(0)
	b.does(1)
	b.stuck(0, 1)
	if _, records := told(b.flow.Out(0)); !slices.Equal(records, count(3)) {
		t.Errorf("%v came out", records)
	}
}

// TestP113OneAtATime: a step feeds one event at most, and lets one out at most, however much room there is.
func TestP113OneAtATime(t *testing.T) {
	b := fresh(t, short(), 8)
	b.feed(0, count(8)...)
	b.does(0)
	b.does(1)
	b.stuck(1)
	b.does(0, 0, 0)
	b.does(1, 1, 1)
	b.stuck(1)
	if b.flow.Count() != 4 {
		t.Errorf("Count = %d", b.flow.Count())
	}
}

// behindSource is a graph in which o, the operator 1, stands behind a source; a route's ports lead to a union, the others' to a map.
func behindSource(o api.Op) api.Graph {
	o.In = in(0)
	next := api.Op{Kind: api.OpMap, Fn: api.FnAdd, In: in(1)}
	if o.Kind == api.OpRoute {
		next = api.Op{Kind: api.OpUnion}
		for port := range int(o.Arg) {
			next.In = append(next.In, api.Edge{From: 1, Port: port})
		}
	}
	return of(1, source(0), o, next, sink(2))
}

// TestP113WithoutRoom: each Kind of which something goes out for each record waits for room where that goes.
func TestP113WithoutRoom(t *testing.T) {
	for _, o := range []api.Op{
		{Kind: api.OpMap, Fn: api.FnMul, Arg: 3},
		{Kind: api.OpFilter, Fn: api.FnLess, Arg: 100},
		{Kind: api.OpKey, Fn: api.FnMod, Arg: 2},
		{Kind: api.OpFold, Fn: api.FnSum},
		{Kind: api.OpWindow, Fn: api.FnMax, Arg: 1},
	} {
		for _, room := range []int{1, 2, 5} {
			b := fresh(t, behindSource(o), room)
			b.feed(0, count(20)...)
			for n := range room {
				b.does(0)
				b.does(1)
				if b.flow.Count() != 0 {
					t.Errorf("%v: %d came out behind %d", o, b.flow.Count(), n)
				}
			}
			// As many as there is room for stand at the next one's input.
			b.does(0)
			b.stuck(1, 1)
			b.does(2)
			b.does(1)
			b.stuck(1)
			b.drain()
		}
	}
}

// TestP113NothingGoesOut: what lets nothing out needs no room.
func TestP113NothingGoesOut(t *testing.T) {
	b := fresh(t, behindSource(api.Op{Kind: api.OpFilter, Fn: api.FnLess, Arg: 5}), 1)
	b.feed(0, rec(0, 1), rec(0, 9), rec(0, 8), rec(0, 2), rec(0, 7))
	b.does(0, 1)
	b.does(0, 1)
	b.does(0, 1)
	b.does(0)
	b.stuck(1)
	b.does(2)
	b.does(1)
	b.does(0, 1)
	b.drain()
	b = fresh(t, behindSource(api.Op{Kind: api.OpWindow, Fn: api.FnSum, Arg: 2}), 1)
	b.feed(0, rec(0, 1), rec(0, 2), rec(0, 3), rec(1, 4), rec(0, 5))
	b.does(0, 1)
	b.does(0, 1)
	b.does(0, 1)
	b.does(0, 1)
	b.does(0)
	b.stuck(1)
	b.does(2, 1)
	b.drain()
}

// TestP113Route: it needs room where the record goes, and for a barrier at each of its ports.
func TestP113Route(t *testing.T) {
	for arg := int64(2); arg <= api.MaxPorts; arg++ {
		for full := range arg {
			b := fresh(t, behindSource(api.Op{Kind: api.OpRoute, Arg: arg}), 1)
			b.feed(0, rec(full, 1))
			for port := range arg {
				if port != full {
					b.feed(0, rec(port, 2))
				}
			}
			b.does(0, 1)
			for range arg - 1 {
				b.does(0, 1)
			}
			// Now none of the union's inputs has room.
			for port := range arg {
				b.feed(0, rec(port, 3))
			}
			b.does(0)
			b.stuck(1)
			// The union takes from its first input: it is the key 0 that can go on.
			b.does(2)
			b.does(1)
			b.does(0)
			b.stuck(1)
			b.answers(b.barrier(1), api.OK)
			b.drain()
		}
	}
	b := fresh(t, behindSource(api.Op{Kind: api.OpRoute, Arg: 3}), 1)
	b.feed(0, rec(2, 7))
	b.answers(b.barrier(1), api.OK)
	b.does(0, 1)
	b.does(0)
	b.stuck(1)
	b.does(2)
	b.does(1)
	b.stuck(0, 1)
	b.does(2)
	b.does(3)
	if s, ok := b.flow.Snap(); !ok || len(s.Tasks[2].Buffers[2]) != 1 || s.Out != 0 {
		t.Errorf("Snap = %v, %v", s, ok)
	}
}

// TestP113Union: it takes records into its buffers without room behind it, and lets out in turn.
func TestP113Union(t *testing.T) {
	b := fresh(t, two(), 1)
	b.feed(0, rec(1, 0), rec(2, 0), rec(3, 0))
	b.feed(1, rec(8, 0), rec(9, 0))
	b.stuck(2)
	b.does(0, 2)
	b.does(2)
	b.stuck(2)
	// The sink's input is full now: nothing goes out, and all is taken.
	b.does(0, 2)
	b.does(1, 2)
	b.does(0, 2)
	b.does(1, 2)
	b.stuck(2, 0, 1)
	for range 4 {
		b.does(3, 2)
		b.stuck(2)
	}
	b.does(3)
	b.stuck(0, 1, 2, 3)
	want := []api.Record{rec(1, 0), rec(8, 0), rec(2, 0), rec(9, 0), rec(3, 0)}
	if _, records := told(b.flow.Out(0)); !slices.Equal(records, want) {
		t.Errorf("%v came out; want %v", records, want)
	}
}

// TestP113UnionAligns: a barrier at one input waits for the one at the other, while records behind it wait, and those of the other input are taken.
func TestP113UnionAligns(t *testing.T) {
	b := fresh(t, two(), 4)
	b.feed(1, rec(8, 0), rec(9, 0))
	b.answers(b.barrier(1), api.OK)
	b.feed(0, rec(1, 0), rec(2, 0))
	b.does(0, 0, 0)
	b.stuck(2)
	b.does(1, 2)
	b.does(1, 2)
	b.stuck(2)
	b.does(1)
	b.does(2)
	b.does(3)
	s, ok := b.flow.Snap()
	if !ok || s.Out != 0 || !slices.Equal(s.Tasks[2].Buffers[1], []api.Record{rec(8, 0), rec(9, 0)}) || len(s.Tasks[2].Buffers[0]) != 0 {
		t.Errorf("Snap = %v, %v", s, ok)
	}
	b.drain()
	if b.flow.Count() != 4 {
		t.Errorf("Count = %d", b.flow.Count())
	}
}

// TestP113Sink: there is always room for one behind it; records and barriers come out.
func TestP113Sink(t *testing.T) {
	b := fresh(t, short(), 2)
	b.stuck(1)
	b.feed(0, count(1)...)
	b.answers(b.barrier(7), api.OK)
	b.feed(0, count(1)...)
	b.does(0, 0)
	b.does(1)
	if b.flow.Count() != 1 || b.flow.Passed() != 0 {
		t.Errorf("Count %d, Passed %d", b.flow.Count(), b.flow.Passed())
	}
	b.does(1)
	if b.flow.Count() != 1 || b.flow.Passed() != 7 {
		t.Errorf("Count %d, Passed %d", b.flow.Count(), b.flow.Passed())
	}
	b.stuck(1)
	b.does(0, 1)
	for n := range 200 {
		b.feed(0, count(1)...)
		b.does(0, 1)
		if b.flow.Count() != int64(n+3) {
			t.Errorf("Count = %d", b.flow.Count())
		}
	}
}

// TestP113CanChangesNothing: asked as often as you like, all comes to the same, step by step.
func TestP113CanChangesNothing(t *testing.T) {
	for _, g := range []api.Graph{short(), two(), wide()} {
		b := fresh(t, g, 2)
		for part := range g.Parts {
			b.feed(part, count(9)...)
		}
		b.answers(b.barrier(2), api.OK)
		for part := range g.Parts {
			b.feed(part, count(4)...)
		}
		// Steps from the last operator on: so that there is room now and then.
		for range 60 {
			for op := len(g.Ops) - 1; op >= 0; op-- {
				b.checkAll()
				b.step(op)
			}
		}
		b.stuck(0, 1, len(g.Ops)-1)
		if n := b.drain(); n != 0 {
			t.Errorf("%d steps were left", n)
		}
	}
}

func TestP113Drain(t *testing.T) {
	for _, g := range []api.Graph{short(), two(), wide()} {
		b := fresh(t, g, 1)
		if n := b.drain(); n != 0 {
			t.Errorf("Drain of nothing = %d", n)
		}
		b.answers(b.barrier(1), api.OK)
		// Each operator lets it through once.
		if n := b.drain(); n != len(g.Ops) {
			t.Errorf("Drain of a barrier = %d; want %d", n, len(g.Ops))
		}
		if n := b.drain(); n != 0 {
			t.Errorf("Drain of nothing = %d", n)
		}
	}
}

// TestP113DrainCounts: how many steps did something, by numbers.
func TestP113DrainCounts(t *testing.T) {
	b := fresh(t, short(), 1)
	b.feed(0, count(10)...)
	// Each record costs a step of each operator.
	if n := b.drain(); n != 20 {
		t.Errorf("Drain = %d", n)
	}
	b = fresh(t, two(), 1)
	b.feed(1, count(10)...)
	// None comes out: each one is taken into a buffer.
	if n := b.drain(); n != 20 {
		t.Errorf("Drain = %d", n)
	}
	b.feed(0, count(10)...)
	if n := b.drain(); n < 20+2*20 || b.flow.Count() != 20 {
		t.Errorf("Drain = %d, Count %d", n, b.flow.Count())
	}
	// Where some steps are done already, it goes on from there.
	b = fresh(t, short(), 4)
	b.feed(0, count(10)...)
	b.does(0, 0, 1)
	if n := b.drain(); n != 17 {
		t.Errorf("Drain = %d", n)
	}
}

func TestP113DrainMuch(t *testing.T) {
	for _, room := range []int{1, api.MaxQueue} {
		for _, g := range []api.Graph{short(), two(), wide()} {
			b := fresh(t, g, room)
			for part := range g.Parts {
				b.answers(b.feed(part, count(api.MaxFeed-1)...), api.OK)
			}
			b.answers(b.barrier(1), api.OK)
			b.drain()
			for part := range g.Parts {
				b.answers(b.feed(part, count(api.MaxFeed)...), api.OK)
			}
			b.drain()
			if n := b.drain(); n != 0 {
				t.Errorf("%d steps were left", n)
			}
		}
	}
}
