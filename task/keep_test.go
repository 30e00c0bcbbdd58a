package task_test

import (
	"runtime"
	"slices"
	"testing"
	"time"

	"pontoon/api"
	"pontoon/task"
)

func TestR3WhatIsHandedIn(t *testing.T) {
	// Lists with room behind their ends.
	memory := records(rec(1, 1), rec(2, 2), rec(3, 3), rec(4, 4), rec(5, 5), rec(6, 6))
	had := slices.Clone(memory)
	o := union(2)
	s := turned(1, memory[0:2], memory[3:5])
	b := from(t, o, 4, s)
	again := from(t, o, 4, s)
	b.mustFeed(0, rec(7, 7), rec(8, 8), bar(1))
	b.mustFeed(1, rec(9, 9), bar(1))
	b.drain(0)
	b.drain(1)
	if !slices.Equal(memory, had) || s.State.Turn != 1 || len(s.Buffers[0]) != 2 || len(s.Buffers[1]) != 2 {
		t.Errorf("what was handed in is %v now, in %v", memory, s)
	}
	again.check()
	// What its owner does with it later is not seen.
	for i := range memory {
		memory[i] = api.Record{Key: -99}
	}
	s.Buffers[0], s.Buffers[1] = nil, nil
	o.In[0] = api.Edge{From: 5, Port: 5}
	b.check()
	again.check()
	again.drain(1)
}

func TestR3KeysHandedIn(t *testing.T) {
	for _, o := range []api.Op{fold(api.FnSum), window(api.FnSum, 3)} {
		memory := []api.KeyState{{Key: 1, Count: 2, Acc: 5}, {Key: 4, Count: 1, Acc: 6}, {Key: 77, Count: 77, Acc: 77}}
		had := slices.Clone(memory)
		b := from(t, o, 8, keyed(memory[:2]...))
		again := from(t, o, 8, keyed(memory[:2]...))
		b.mustFeed(0, rec(1, 1), rec(2, 2), rec(5, 5), bar(1), rec(4, 4))
		b.drain(1)
		if !slices.Equal(memory, had) {
			t.Errorf("%v: what was handed in is %v now", o, memory)
		}
		clear(memory)
		b.check()
		again.check()
		again.mustFeed(0, rec(1, 1), bar(3))
		again.drain(1)
	}
}

// TestR3Room: the list of rooms is not written to, and is not kept.
func TestR3Room(t *testing.T) {
	b := fresh(t, route(3), 8, []api.Event{rec(0, 0), rec(1, 1), bar(1), rec(2, 2)})
	left := []int{1, 1, 1, -7, 9}
	for range 4 {
		b.step(left[:3]...)
		b.task.Can(left...)
	}
	if !slices.Equal(left, []int{1, 1, 1, -7, 9}) {
		t.Errorf("the rooms are %v now", left)
	}
	clear(left)
	b.check()
}

// working is tasks that keep something, have set something aside, and at whose inputs something waits.
func working(t *testing.T) []both {
	u := from(t, union(3), 5, turned(2, records(rec(1, 1), rec(2, 2)), records(rec(3, 3)), nil))
	for input := range 3 {
		u.mustFeed(input, bar(4))
	}
	u.step(1)
	u.mustFeed(2, rec(4, 4), rec(5, 5))
	u.mustFeed(0, rec(6, 6))
	u.step(1)
	f := from(t, fold(api.FnSum), 5, keyed(api.KeyState{Key: 1, Count: 1, Acc: 1}, api.KeyState{Key: 3, Count: 1, Acc: 3}))
	f.mustFeed(0, bar(4), rec(2, 2), rec(1, 9), bar(5), rec(3, 3))
	f.step(1)
	w := from(t, window(api.FnSum, 2), 5, keyed(api.KeyState{Key: 1, Count: 1, Acc: 1}, api.KeyState{Key: 3, Count: 1, Acc: 3}))
	w.mustFeed(0, bar(4), rec(2, 2), rec(1, 9), bar(5), rec(3, 3))
	w.step(1)
	r := fresh(t, route(2), 5, []api.Event{bar(4), rec(1, 1), rec(2, 2), bar(6)})
	r.step(1, 1)
	return []both{u, f, w, r}
}

func scribble(s api.TaskState) {
	for i := range s.State.Keys {
		s.State.Keys[i] = api.KeyState{Key: -99}
	}
	for i, l := range s.Buffers {
		for j := range l[:cap(l)] {
			l[:cap(l)][j] = api.Record{Key: -99}
		}
		s.Buffers[i] = nil
	}
}

// TestR3WhatIsAnswered: who writes to an answer changes neither the task nor another answer.
func TestR3WhatIsAnswered(t *testing.T) {
	for _, b := range working(t) {
		for range 12 {
			p, q := b.task.Plain(), b.task.Plain()
			a, is := b.task.Aside(b.task.Passed())
			again, _ := b.task.Aside(b.task.Passed())
			if !is {
				t.Fatal("nothing is set aside")
			}
			scribble(p.Now)
			for i, l := range p.Queues {
				clear(l[:cap(l)])
				p.Queues[i] = nil
			}
			scribble(a)
			b.check()
			if want := b.task.Plain(); !sameTask(q, want) {
				t.Errorf("another answer is %v now; want %v", q, want)
			}
			if want, _ := b.task.Aside(b.task.Passed()); !sameState(again, want) {
				t.Errorf("another answer is %v now; want %v", again, want)
			}
			out, _ := b.task.Clone().Step(1, 1, 1, 1)
			clear(out[:cap(out)])
			b.check()
			b.step(1, 1, 1, 1)
		}
	}
}

// TestR3AnswersStay: what was answered stays as it was, whatever the task does.
func TestR3AnswersStay(t *testing.T) {
	for _, b := range working(t) {
		p := b.task.Plain()
		a, _ := b.task.Aside(4)
		had, hadAside := b.model.clone(), cloneState(a)
		b.mustFeed(0, rec(8, 8))
		b.drain(1, 1, 1, 1)
		for id := range int64(5) {
			for input := range b.task.Inputs() {
				b.mustFeed(input, rec(id, id), bar(20+id))
			}
			b.drain(1, 1, 1, 1)
		}
		if want := (api.Task{Now: had.now, Queues: had.queues}); !sameTask(p, want) {
			t.Errorf("Plain is %v now; want %v", p, want)
		}
		if !sameState(a, hadAside) {
			t.Errorf("Aside is %v now; want %v", a, hadAside)
		}
	}
}

// TestR3ListsApart: no two lists of one answer share memory; what is appended to one is not seen at another one.
func TestR3ListsApart(t *testing.T) {
	for _, b := range working(t) {
		p := b.task.Plain()
		a, _ := b.task.Aside(4)
		for _, s := range []api.TaskState{p.Now, a} {
			had := cloneState(s)
			for i := range s.Buffers {
				_ = append(s.Buffers[i], api.Record{Key: 31})
			}
			_ = append(s.State.Keys, api.KeyState{Key: 31})
			if !sameState(s, had) {
				t.Errorf("%v was %v", s, had)
			}
		}
		b.check()
	}
}

// TestP103Clone: both go their own way.
func TestP103Clone(t *testing.T) {
	for _, b := range working(t) {
		for range 10 {
			c := b.clone()
			c.check()
			first := b.clone()
			for input := range b.task.Inputs() {
				b.feed(input, rec(40, 40))
				c.check()
				c.feed(input, bar(60))
				b.check()
			}
			for range 20 {
				b.step(1, 1, 1, 1)
				c.check()
				c.step(1, 1)
				c.step(0, 1)
				b.check()
			}
			first.check()
			*b.task = task.Task{}
			c.check()
			b = first
			b.step(1, 1, 1, 1)
		}
	}
}

// TestP103CloneOfBuffers: both put other records behind buffers that have grown, and take from them.
func TestP103CloneOfBuffers(t *testing.T) {
	for many := range int64(40) {
		b := fresh(t, union(2), 3)
		for n := range many {
			b.mustFeed(1, rec(n, 0))
			b.does(nil)
		}
		c := b.clone()
		for n := range int64(6) {
			b.mustFeed(1, rec(100+n, 0))
			c.mustFeed(1, rec(200+n, 0))
			b.does(nil)
			c.does(nil)
			b.check()
			b.mustFeed(0, rec(-n, 0))
			b.drain(1)
			c.check()
		}
		for n := range many + 6 {
			c.mustFeed(0, rec(-n, 0))
			c.drain(1)
		}
		b.check()
	}
}

// TestP103CloneKnowsPast: a barrier that is past is past for the clone, too, also if nothing waits.
func TestP103CloneKnowsPast(t *testing.T) {
	for _, o := range ops() {
		b := fresh(t, o, 2)
		for input := range b.task.Inputs() {
			b.mustFeed(input, bar(5))
		}
		b.drain(1, 1, 1, 1)
		c := b.clone().clone()
		c.check()
		for input := range c.task.Inputs() {
			if e := c.feed(input, bar(5)); e != api.ErrPast {
				t.Errorf("%v: Feed of a past barrier: %d", o, e)
			}
			c.mustFeed(input, bar(6))
		}
		b.check()
	}
}

func TestR4NoLists(t *testing.T) {
	for _, o := range []api.Op{fold(api.FnSum), window(api.FnSum, 2), route(2), plain(api.OpSink, 0, 0), plain(api.OpMap, api.FnNeg, 0)} {
		for _, s := range []api.TaskState{
			{},
			{Buffers: [][]api.Record{}},
			{State: api.OpState{Keys: []api.KeyState{}}, Buffers: make([][]api.Record, 0, 4)},
		} {
			b := from(t, o, 2, s)
			b.mustFeed(0, rec(1, 1), bar(1))
			b.drain(1, 1)
		}
		o.In = []api.Edge{}
		from(t, o, 2, api.TaskState{})
	}
	for _, buffers := range [][][]api.Record{{nil, nil}, {{}, {}}, {nil, {}}, {make([]api.Record, 0, 7), nil}} {
		b := from(t, union(2), 2, turned(0, buffers...))
		b.mustFeed(0, rec(1, 1), bar(1))
		b.mustFeed(1, rec(1, 1), bar(1))
		b.drain(1)
	}
	b := fresh(t, union(2), 2, []api.Event{rec(1, 1)})
	b.step([]int{}...)
	b.stuck([]int{}...)
}

func TestR5WhatNoCallMade(t *testing.T) {
	for name, x := range map[string]*task.Task{"nil": nil, "zero": {}, "new": new(task.Task)} {
		for range 2 {
			for _, input := range []int{least, -1, 0, 1, most} {
				for _, e := range []api.Event{rec(1, 1), bar(1), {}, bar(-1)} {
					if got := x.Feed(input, e); got != api.ErrMade {
						t.Errorf("%s: Feed(%d, %v) = %d", name, input, e, got)
					}
				}
				if got := x.Left(input); got != 0 {
					t.Errorf("%s: Left(%d) = %d", name, input, got)
				}
			}
			for _, left := range rooms() {
				if out, done := x.Step(left...); out != nil || done || x.Can(left...) {
					t.Errorf("%s: Step(%v) = %v, %v", name, left, out, done)
				}
			}
			for _, id := range []int64{least, -1, 0, 1, most} {
				if s, ok := x.Aside(id); ok || s.State.Keys != nil || s.State.Turn != 0 || s.Buffers != nil {
					t.Errorf("%s: Aside(%d) = %v, %v", name, id, s, ok)
				}
			}
			if p := x.Plain(); p.Queues != nil || p.Now.Buffers != nil || p.Now.State.Keys != nil || p.Now.State.Turn != 0 {
				t.Errorf("%s: Plain = %v", name, p)
			}
			if x.Inputs() != 0 || x.Passed() != 0 || x.Clone() != nil {
				t.Errorf("%s: Inputs %d, Passed %d, Clone %v", name, x.Inputs(), x.Passed(), x.Clone())
			}
		}
	}
}

// TestR2RefusedChangesNothing: refused calls stand between those that are not, and all comes to the same.
func TestR2RefusedChangesNothing(t *testing.T) {
	for _, b := range working(t) {
		twin := b.clone()
		for range 12 {
			for _, input := range []int{-1, b.task.Inputs()} {
				b.feed(input, rec(1, 1))
				b.feed(input, bar(90))
			}
			b.feed(0, api.Event{})
			b.feed(0, bar(1))
			b.feed(0, api.Event{Kind: api.EvBarrier, Id: 90, Record: api.Record{Key: 1}})
			for _, left := range rooms() {
				b.task.Can(left...)
			}
			if !sameTask(b.task.Plain(), twin.task.Plain()) {
				t.Fatalf("%v; want %v", b.task.Plain(), twin.task.Plain())
			}
			b.feed(0, bar(30))
			twin.feed(0, bar(30))
			out, _ := b.step(1, 1, 1, 1)
			if want, _ := twin.step(1, 1, 1, 1); !slices.Equal(out, want) {
				t.Fatalf("%v went out; want %v", out, want)
			}
		}
	}
}

// fill lets that many records into the buffer of the input 0 of a union whose turn is 1.
func fill(t *testing.T, many int) *task.Task {
	x, e := task.From(union(2), api.MaxQueue, turned(1, nil, nil))
	if e != api.OK {
		t.Fatal(e)
	}
	for n := range int64(many) {
		if x.Feed(0, rec(n, 0)) != api.OK {
			t.Fatal("Feed", n)
		}
		if out, done := x.Step(1); out != nil || !done {
			t.Fatal("Step", n, out, done)
		}
	}
	return x
}

// TestBoundLongBuffers: a record costs a few steps, however many stand in the buffers.
func TestBoundLongBuffers(t *testing.T) {
	const many = 300_000
	begin := time.Now()
	x := fill(t, many)
	for n := range int64(many) {
		if x.Feed(1, rec(-n, 0)) != api.OK {
			t.Fatal("Feed", n)
		}
		x.Step(1)
		if out, done := x.Step(1); !done || !slices.Equal(out, outs(0, rec(-n, 0))) {
			t.Fatal("Step", n, out, done)
		}
		if out, done := x.Step(1); !done || !slices.Equal(out, outs(0, rec(n, 0))) {
			t.Fatal("Step", n, out, done)
		}
	}
	if p := x.Plain(); !sameTask(p, api.Task{Now: turned(1, nil, nil), Queues: make([][]api.Event, 2)}) {
		t.Errorf("in the end it is %v", p)
	}
	// Moving all records up for each one would take minutes.
	if took := time.Since(begin); took > 20*time.Second {
		t.Errorf("it took %v", took)
	}
}

// held is how many bytes are in use.
func held() uint64 {
	var m runtime.MemStats
	runtime.GC()
	runtime.ReadMemStats(&m)
	return m.HeapAlloc
}

// TestBoundTakenIsGone: what went out of a long buffer takes no memory any more.
func TestBoundTakenIsGone(t *testing.T) {
	before := held()
	x := fill(t, 1<<18)
	if got := held(); got < before+4<<20 {
		t.Fatalf("%d bytes are held of a long buffer: too few to tell", got-before)
	}
	// takes lets that many out of the long buffer: one of the other input goes ahead of each.
	takes := func(many int) {
		for range many {
			x.Feed(1, rec(0, 0))
			x.Step(0)
			x.Step(1)
			x.Step(1)
		}
	}
	takes(1<<18 - 1000)
	if got, left := held(), len(x.Plain().Now.Buffers[0]); got > before+1<<20 || left != 1000 {
		t.Errorf("%d bytes more are held of %d records", got-before, left)
	}
	takes(1000)
	if got, left := held(), len(x.Plain().Now.Buffers[0]); got > before+1<<19 || left != 0 {
		t.Errorf("%d bytes more are held of %d records", got-before, left)
	}
	runtime.KeepAlive(x)
}

// handle feeds a record to a task with one input, and steps it.
func handle(t *testing.T, x *task.Task, key int64) []api.Out {
	t.Helper()
	if x.Feed(0, rec(key, 1)) != api.OK {
		t.Fatal("Feed", key)
	}
	out, done := x.Step(1)
	if !done {
		t.Fatal("Step", key)
	}
	return out
}

// TestBoundManyKeys: a record costs a few steps, however many keys are kept, whichever key it has.
func TestBoundManyKeys(t *testing.T) {
	const many = 300_000
	begin := time.Now()
	for _, o := range []api.Op{fold(api.FnSum), window(api.FnSum, 3)} {
		x, e := task.New(o, 1)
		if e != api.OK {
			t.Fatal(e)
		}
		// Each key comes once, from all sides, and some of them twice.
		for n := range int64(many) {
			handle(t, x, n*7919%many)
			if n%3 == 0 {
				handle(t, x, n*7919%many)
			}
		}
		keys := x.Plain().Now.State.Keys
		if len(keys) != many {
			t.Fatalf("%v: %d keys", o, len(keys))
		}
		for i, k := range keys {
			if k.Key != int64(i) || k.Count != k.Acc || k.Count < 1 || k.Count > 2 {
				t.Fatalf("%v: %v at %d", o, k, i)
			}
		}
	}
	// Copying all keys for each record would take many minutes.
	if took := time.Since(begin); took > 20*time.Second {
		t.Errorf("it took %v", took)
	}
}

// TestBoundKeysGone: keys of which nothing is kept any more take no memory, and no time where the others are asked for.
func TestBoundKeysGone(t *testing.T) {
	const many = 200_000
	before := held()
	x, e := task.New(window(api.FnSum, 2), 1)
	if e != api.OK {
		t.Fatal(e)
	}
	for key := range int64(many) {
		handle(t, x, key)
	}
	if got := held(); got < before+4<<20 {
		t.Fatalf("%d bytes are held of many keys: too few to tell", got-before)
	}
	for key := range int64(many - 100) {
		if out := handle(t, x, key); !slices.Equal(out, outs(0, rec(key, 2))) {
			t.Fatalf("%v went out", out)
		}
	}
	if got, left := held(), len(x.Plain().Now.State.Keys); got > before+1<<18 || left != 100 {
		t.Errorf("%d bytes more are held of %d keys", got-before, left)
	}
	begin := time.Now()
	for range 20_000 {
		x.Plain()
	}
	if took := time.Since(begin); took > 20*time.Second {
		t.Errorf("it took %v", took)
	}
	runtime.KeepAlive(x)
}
