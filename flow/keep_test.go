package flow_test

import (
	"runtime"
	"slices"
	"testing"
	"time"

	"pontoon/api"
	"pontoon/flow"
	"pontoon/graph"
)

// kept is a state of wide whose lists have room behind their ends, one right behind the other in the same memory.
func kept() (api.FlowState, []int64, []api.KeyState, []api.Record) {
	numbers := []int64{30, 40, 77, 77}
	keys := []api.KeyState{{Key: 1, Count: 1, Acc: 5}, {Key: 3, Count: 1, Acc: 6}, {Key: 1, Count: 9, Acc: 50}, {Key: 4, Count: 2, Acc: -6}, {Key: 77, Count: 77, Acc: 77}}
	records := append(count(6), rec(77, 77))
	s := nothing(wide())
	s.Id, s.Out, s.Vector = 4, 20, numbers[:2]
	s.Tasks[5] = api.TaskState{State: api.OpState{Turn: 2}, Buffers: [][]api.Record{records[:2], records[2:2], records[2:5], records[5:6]}}
	s.Tasks[6].State.Keys = keys[:2]
	s.Tasks[8].State.Keys = keys[2:4]
	return s, numbers, keys, records
}

// scribble writes to all that a state has, also behind the ends of its lists.
func scribble(s api.FlowState) {
	for i := range s.Vector[:cap(s.Vector)] {
		s.Vector[:cap(s.Vector)][i] = -99
	}
	for n := range s.Tasks {
		k := &s.Tasks[n]
		for i := range k.State.Keys[:cap(k.State.Keys)] {
			k.State.Keys[:cap(k.State.Keys)][i] = api.KeyState{Key: -99}
		}
		for i, l := range k.Buffers {
			for j := range l[:cap(l)] {
				l[:cap(l)][j] = rec(-99, -99)
			}
			k.Buffers[i] = nil
		}
		*k = api.TaskState{State: api.OpState{Turn: 99}}
	}
}

// busy has a flow do much: records, barriers, all drained.
func busy(b both) {
	for id := range int64(3) {
		for part := range b.model.g.Parts {
			b.feed(part, count(9)...)
		}
		b.barrier(b.model.passed + 1 + id)
		for part := range b.model.g.Parts {
			b.feed(part, count(4)...)
		}
		b.drain()
	}
}

func TestR3WhatIsHandedIn(t *testing.T) {
	g := wide()
	s, numbers, keys, records := kept()
	had, hadGraph := cloneState(s), graph.Clone(g)
	hadNumbers, hadKeys, hadRecords := slices.Clone(numbers), slices.Clone(keys), slices.Clone(records)
	b, again := from(t, g, 2, s), from(t, g, 2, s)
	busy(b)
	if !sameState(s, had) || !slices.Equal(numbers, hadNumbers) || !slices.Equal(keys, hadKeys) || !slices.Equal(records, hadRecords) || !graph.Same(g, hadGraph) {
		t.Errorf("what was handed in is %v, %v, %v, %v, %v now", s, numbers, keys, records, g)
	}
	again.checkAll()
	// What its owner does with it later is not seen.
	scribble(s)
	for n := range g.Ops {
		for i := range g.Ops[n].In {
			g.Ops[n].In[i] = api.Edge{From: 9, Port: 9}
		}
		g.Ops[n] = api.Op{Kind: 99}
	}
	b.checkAll()
	again.checkAll()
	busy(b)
	busy(again)
}

func TestR3GraphOfNew(t *testing.T) {
	g := wide()
	b := fresh(t, g, 2)
	for n := range g.Ops {
		clear(g.Ops[n].In)
		g.Ops[n] = api.Op{}
	}
	busy(b)
}

func TestR3Records(t *testing.T) {
	b := fresh(t, short(), 2)
	memory := count(12)
	b.answers(b.feed(0, memory[:5]...), api.OK)
	b.answers(b.feed(0, memory[5:9]...), api.OK)
	b.answers(b.barrier(1), api.OK)
	b.answers(b.feed(0, memory[:3]...), api.OK)
	if !slices.Equal(memory, count(12)) {
		t.Errorf("what was handed in is %v now", memory)
	}
	clear(memory)
	b.drain()
	if _, records := told(b.flow.Out(0)); !slices.Equal(records, append(count(9), count(3)...)) {
		t.Errorf("%v came out", records)
	}
}

// TestR3WhatIsAnswered: who writes to an answer changes neither the flow nor another answer.
func TestR3WhatIsAnswered(t *testing.T) {
	s, _, _, _ := kept()
	b := from(t, wide(), 2, s)
	for range 3 {
		busy(b)
		one, _ := b.flow.Snap()
		other, _ := b.flow.Snap()
		had := cloneState(one)
		scribble(one)
		if !sameState(other, had) {
			t.Errorf("another answer is %v now; want %v", other, had)
		}
		fed, more := b.flow.Fed(), b.flow.Fed()
		want := slices.Clone(fed)
		for i := range fed[:cap(fed)] {
			fed[:cap(fed)][i] = -99
		}
		if !slices.Equal(more, want) {
			t.Errorf("another answer is %v now; want %v", more, want)
		}
		b.checkAll()
	}
}

// TestR3SnapApart: no two lists of one answer share memory; what is appended to one is not seen at another one.
func TestR3SnapApart(t *testing.T) {
	s, _, _, _ := kept()
	b := from(t, wide(), 2, s)
	busy(b)
	snap, _ := b.flow.Snap()
	had := cloneState(snap)
	_ = append(snap.Vector, 31)
	for _, k := range snap.Tasks {
		_ = append(k.State.Keys, api.KeyState{Key: 31})
		for _, l := range k.Buffers {
			_ = append(l, rec(31, 31))
		}
	}
	if !sameState(snap, had) {
		t.Errorf("%v was %v", snap, had)
	}
	b.checkAll()
}

// TestR3AnswersStay: what was answered stays as it was, whatever the flow does.
func TestR3AnswersStay(t *testing.T) {
	s, _, _, _ := kept()
	b := from(t, wide(), 2, s)
	busy(b)
	snap, _ := b.flow.Snap()
	fed := b.flow.Fed()
	had, hadFed := cloneState(snap), slices.Clone(fed)
	busy(b)
	if !sameState(snap, had) || !slices.Equal(fed, hadFed) {
		t.Errorf("%v, %v; was %v, %v", snap, fed, had, hadFed)
	}
}

// TestR3OutTellsWhatWasThere: an iterator tells what there was when it was asked for, whatever comes out between then and the loop, and within it.
func TestR3OutTellsWhatWasThere(t *testing.T) {
	b := fresh(t, short(), 2)
	early := b.flow.Out(0)
	for n := range 70 {
		l := b.flow.Out(3)
		_, had := told(l)
		if len(had) != max(n-3, 0) {
			t.Fatalf("Out(3) tells %v behind %d", had, n)
		}
		b.feed(0, rec(int64(n), 5))
		b.drain()
		for range 2 {
			if _, now := told(l); !slices.Equal(now, had) {
				t.Fatalf("it tells %v now; was %v", now, had)
			}
		}
	}
	if places, _ := told(early); places != nil {
		t.Errorf("an early one tells %v", places)
	}
	seen := int64(0)
	for place, r := range b.flow.Out(0) {
		if place != seen || r != rec(seen, 5) {
			t.Errorf("%v at %d", r, place)
		}
		seen++
		b.feed(0, rec(99, 99))
		b.drain()
	}
	if seen != 70 || b.flow.Count() != 140 {
		t.Errorf("it told %d, Count %d", seen, b.flow.Count())
	}
	l := b.flow.Out(0)
	*b.flow = flow.Flow{}
	if places, _ := told(l); len(places) != 140 {
		t.Errorf("it tells %v of a flow that is no more", places)
	}
}

// TestP114Clone: both go their own way, whatever waits where.
func TestP114Clone(t *testing.T) {
	s, _, _, _ := kept()
	for steps := range 60 {
		b := from(t, wide(), 2, s)
		b.feed(0, count(9)...)
		b.feed(1, count(5)...)
		b.barrier(5)
		b.feed(0, count(3)...)
		for n := range steps {
			b.step(n * 7 % 10)
		}
		c, first := b.clone(), b.clone()
		c.checkAll()
		b.feed(0, rec(50, 50))
		c.feed(0, rec(60, 60), rec(61, 61))
		b.check()
		b.barrier(8)
		c.barrier(9)
		for n := range 40 {
			b.step(n * 3 % 10)
			c.check()
			c.step(n % 10)
			b.check()
		}
		b.drain()
		c.checkAll()
		c.drain()
		b.checkAll()
		*b.flow = flow.Flow{}
		c.checkAll()
		first.checkAll()
		first.drain()
		busy(first)
	}
}

// TestP114CloneOfOut: what comes out of the one does not stand among what came out of the other one.
func TestP114CloneOfOut(t *testing.T) {
	for n := range 40 {
		b := fresh(t, short(), 2)
		b.feed(0, count(n)...)
		b.drain()
		c := b.clone()
		for i := range int64(9) {
			b.feed(0, rec(100+i, 0))
			b.drain()
			c.feed(0, rec(200+i, 0))
			c.drain()
			b.checkAll()
			c.checkAll()
		}
	}
}

// TestP114CloneOfWaiting: what is fed to the one does not wait ahead of the other one.
func TestP114CloneOfWaiting(t *testing.T) {
	for n := range 40 {
		b := fresh(t, short(), 2)
		b.feed(0, count(n)...)
		b.step(0)
		c := b.clone()
		b.feed(0, rec(100, 0))
		c.feed(0, rec(200, 0))
		b.barrier(1)
		c.barrier(2)
		b.drain()
		c.drain()
	}
}

// TestP114CloneOfSnap: what a clone tells of a barrier stays, whatever the other one does.
func TestP114CloneOfSnap(t *testing.T) {
	b := fresh(t, wide(), 2)
	busy(b)
	c := b.clone()
	want, _ := c.flow.Snap()
	busy(b)
	if got, ok := c.flow.Snap(); !ok || !sameState(got, want) {
		t.Errorf("Snap = %v, %v; want %v", got, ok, want)
	}
	d := c.flow.Clone().Clone()
	if got, ok := d.Snap(); !ok || !sameState(got, want) {
		t.Errorf("Snap = %v, %v; want %v", got, ok, want)
	}
	if e := d.Barrier(want.Id); e != api.ErrPast {
		t.Errorf("Barrier of one that was passed: %d", e)
	}
}

func TestR4NoLists(t *testing.T) {
	g := two()
	for _, buffers := range [][][]api.Record{{nil, nil}, {{}, {}}, {nil, {}}, {make([]api.Record, 0, 7), nil}} {
		s := nothing(g)
		s.Tasks[2].Buffers = buffers
		for _, n := range []int{0, 1, 3} {
			s.Tasks[n] = api.TaskState{State: api.OpState{Keys: []api.KeyState{}}, Buffers: [][]api.Record{}}
		}
		busy(from(t, g, 2, s))
	}
	g.Ops[0].In, g.Ops[1].In = []api.Edge{}, make([]api.Edge, 0, 3)
	busy(fresh(t, g, 2))
	b := fresh(t, g, 2)
	b.answers(b.feed(0, []api.Record{}...), api.OK)
	b.answers(b.feed(0, nil...), api.OK)
	b.stuck(0, 1, 2, 3)
	checkRefused(t, api.ErrState, g, 2, api.FlowState{Vector: []int64{}, Tasks: []api.TaskState{}})
	checkNewRefused(t, api.ErrPart, api.Graph{Parts: 1, Ops: []api.Op{}}, 2)
}

func TestR5WhatNoCallMade(t *testing.T) {
	for name, f := range map[string]*flow.Flow{"nil": nil, "zero": {}, "new": new(flow.Flow)} {
		for range 2 {
			for _, part := range []int{least, -1, 0, 1, most} {
				for _, n := range []int{0, 1, api.MaxFeed + 1} {
					if e := f.Feed(part, count(n)...); e != api.ErrMade {
						t.Errorf("%s: Feed(%d, %d records) = %d", name, part, n, e)
					}
				}
				if f.Step(part) || f.Can(part) {
					t.Errorf("%s: there is an operator %d", name, part)
				}
			}
			for _, id := range []int64{least, -1, 0, 1, api.MaxNum, most} {
				if e := f.Barrier(id); e != api.ErrMade {
					t.Errorf("%s: Barrier(%d) = %d", name, id, e)
				}
				l := f.Out(id)
				if l == nil {
					t.Fatalf("%s: Out(%d) is nil", name, id)
				}
				if places, _ := told(l); places != nil {
					t.Errorf("%s: Out(%d) tells %v", name, id, places)
				}
			}
			if s, ok := f.Snap(); ok || s.Id != 0 || s.Out != 0 || s.Vector != nil || s.Tasks != nil {
				t.Errorf("%s: Snap = %v, %v", name, s, ok)
			}
			if f.Drain() != 0 || f.Fed() != nil || f.Base() != 0 || f.Count() != 0 || f.Passed() != 0 || f.Clone() != nil {
				t.Errorf("%s: Drain %d, Fed %v, Base %d, Count %d, Passed %d, Clone %v", name, f.Drain(), f.Fed(), f.Base(), f.Count(), f.Passed(), f.Clone())
			}
		}
	}
}

// TestR2RefusedChangesNothing: refused calls stand between those that are not, and all comes to the same.
func TestR2RefusedChangesNothing(t *testing.T) {
	s, _, _, _ := kept()
	s.Vector[1] = api.MaxNum - 30
	b := from(t, wide(), 1, s)
	refused := func() {
		t.Helper()
		b.answers(b.feed(-1, count(2)...), api.ErrArg)
		b.answers(b.feed(2, count(2)...), api.ErrArg)
		b.answers(b.feed(0, count(api.MaxFeed+1)...), api.ErrLong)
		b.answers(b.feed(1, count(31)...), api.ErrFull)
		b.answers(b.barrier(0), api.ErrArg)
		b.answers(b.barrier(api.MaxNum+1), api.ErrArg)
		if b.model.onWay {
			b.answers(b.barrier(api.MaxNum), api.ErrBarrier)
		} else {
			b.answers(b.barrier(b.model.passed), api.ErrPast)
		}
		b.stuck(-1, 10)
	}
	for id := range int64(4) {
		refused()
		b.answers(b.feed(0, count(3)...), api.OK)
		b.answers(b.feed(1, count(2)...), api.OK)
		refused()
		b.answers(b.barrier(10+id), api.OK)
		refused()
		for n := range 30 {
			b.step(n % 10)
			refused()
		}
		b.drain()
		refused()
	}
	if fed := b.flow.Fed(); !slices.Equal(fed, []int64{42, api.MaxNum - 22}) {
		t.Errorf("Fed = %v", fed)
	}
}

// soon fails a test that has taken longer than what is near-linear may take.
func soon(t *testing.T, begin time.Time) {
	t.Helper()
	if took := time.Since(begin); took > 20*time.Second {
		t.Errorf("it took %v", took)
	}
}

// TestBoundManyKeys: a record costs a few steps, however many keys are kept; copying them for each one would take many minutes.
func TestBoundManyKeys(t *testing.T) {
	begin := time.Now()
	for _, o := range []api.Op{{Kind: api.OpFold, Fn: api.FnSum, In: in(0)}, {Kind: api.OpWindow, Fn: api.FnSum, Arg: api.MaxCount, In: in(0)}} {
		g := of(1, source(0), o, sink(1))
		f, _ := flow.New(g, 4)
		for round := range int64(40) {
			l := make([]api.Record, api.MaxFeed-1)
			for i := range l {
				l[i] = rec((round*api.MaxFeed+int64(i))*7919%1000003, 1)
			}
			if e := f.Feed(0, l...); e != api.OK {
				t.Fatal("Feed", e)
			}
			if e := f.Barrier(round + 1); e != api.OK {
				t.Fatal("Barrier", e)
			}
			f.Drain()
		}
		s, ok := f.Snap()
		if !ok || len(s.Tasks[1].State.Keys) != 40*(api.MaxFeed-1) {
			t.Errorf("%v: %d keys", o, len(s.Tasks[1].State.Keys))
		}
	}
	soon(t, begin)
}

// TestBoundDrain: as many as may wait, through a graph as long as may be, with the least room.
func TestBoundDrain(t *testing.T) {
	begin := time.Now()
	g := of(api.MaxParts)
	for part := range g.Parts {
		g.Ops = append(g.Ops, source(part))
	}
	g.Ops = append(g.Ops, api.Op{Kind: api.OpUnion, In: in(0, 1, 2, 3)})
	for n := len(g.Ops); n < api.MaxOps-1; n++ {
		g.Ops = append(g.Ops, api.Op{Kind: api.OpMap, Fn: api.FnAdd, Arg: 1, In: in(n - 1)})
	}
	g.Ops = append(g.Ops, sink(api.MaxOps-2))
	f, e := flow.New(g, 1)
	if e != api.OK {
		t.Fatal(e)
	}
	for id := range int64(5) {
		for part := range g.Parts {
			if e := f.Feed(part, count(api.MaxFeed-1)...); e != api.OK {
				t.Fatal("Feed", e)
			}
		}
		if e := f.Barrier(id + 1); e != api.OK {
			t.Fatal("Barrier", e)
		}
		f.Drain()
		if f.Passed() != id+1 || f.Count() != (id+1)*api.MaxParts*(api.MaxFeed-1) {
			t.Fatalf("Passed %d, Count %d", f.Passed(), f.Count())
		}
	}
	soon(t, begin)
}

// TestBoundManyRecords: feeding, stepping and asking cost a few steps each, however many records have come out, and however many wait.
func TestBoundManyRecords(t *testing.T) {
	begin := time.Now()
	f, _ := flow.New(short(), 2)
	if e := f.Feed(0, count(api.MaxFeed-1)...); e != api.OK {
		t.Fatal("Feed", e)
	}
	for n := range int64(400_000) {
		if f.Feed(0, rec(n, n)) != api.OK || !f.Step(0) || !f.Step(1) || f.Count() != n+1 {
			t.Fatal("Step", n)
		}
		told := 0
		for range f.Out(n) {
			told++
		}
		if told != 1 {
			t.Fatalf("Out(%d) told %d", n, told)
		}
	}
	soon(t, begin)
}

// TestBoundGoneIsGone: what has gone through takes no more memory than it must: the records that came out, and no events.
func TestBoundGoneIsGone(t *testing.T) {
	held := func() uint64 {
		var m runtime.MemStats
		runtime.GC()
		runtime.ReadMemStats(&m)
		return m.HeapAlloc
	}
	before := held()
	// A filter that nothing comes through: so that nothing need be kept.
	g := of(1, source(0), api.Op{Kind: api.OpFilter, Fn: api.FnLess, Arg: least, In: in(0)}, sink(1))
	f, _ := flow.New(g, 2)
	for range 100 {
		f.Feed(0, count(api.MaxFeed)...)
		f.Drain()
	}
	if got := held(); got > before+1<<16 {
		t.Errorf("%d bytes more are held", got-before)
	}
	runtime.KeepAlive(f)
}
