package task_test

import (
	"testing"

	"pontoon/api"
	"pontoon/task"
)

// checkRefused holds From against that error.
func checkRefused(t *testing.T, want api.Errno, o api.Op, room int, s api.TaskState) {
	t.Helper()
	if x, e := task.From(o, room, s); x != nil || e != want {
		t.Errorf("From(%v, %d, %v) = %v, %d; want %d", o, room, s, x, e, want)
	}
}

func checkNewRefused(t *testing.T, o api.Op, room int) {
	t.Helper()
	if x, e := task.New(o, room); x != nil || e != api.ErrArg {
		t.Errorf("New(%v, %d) = %v, %d", o, room, x, e)
	}
}

// nothing is what a task of New keeps.
func nothing(o api.Op) api.TaskState {
	if o.Kind == api.OpUnion {
		return api.TaskState{Buffers: make([][]api.Record, len(o.In))}
	}
	return api.TaskState{}
}

func TestP101EachKind(t *testing.T) {
	kinds := map[int]bool{}
	for _, o := range ops() {
		kinds[o.Kind] = true
		inputs := 1
		if o.Kind == api.OpUnion {
			inputs = len(o.In)
		}
		for _, b := range []both{fresh(t, o, 3), from(t, o, 3, nothing(o))} {
			if b.task.Inputs() != inputs || b.task.Left(inputs-1) != 3 || b.task.Left(inputs) != 0 {
				t.Errorf("%v: Inputs %d, Left %d and %d", o, b.task.Inputs(), b.task.Left(inputs-1), b.task.Left(inputs))
			}
			if p := b.task.Plain(); !sameTask(p, api.Task{Now: nothing(o), Queues: make([][]api.Event, inputs)}) {
				t.Errorf("%v: Plain = %v", o, p)
			}
			b.stuck(1, 1, 1, 1)
		}
	}
	if len(kinds) != 9 {
		t.Errorf("only the Kinds %v", kinds)
	}
	for _, kind := range []int{0, 10, 11, 12, -1, -8, 257, 264, 1<<32 + 1, 1<<32 + 8, most, least} {
		for _, inputs := range []int{0, 1, 2} {
			o := api.Op{Kind: kind, Arg: 2, In: make([]api.Edge, inputs)}
			checkNewRefused(t, o, 2)
			checkRefused(t, api.ErrArg, o, 2, api.TaskState{})
			checkRefused(t, api.ErrArg, o, 2, api.TaskState{Buffers: make([][]api.Record, inputs)})
		}
	}
}

// TestP101InputsOfOthers: how many edges lead to it matters of an OpUnion alone.
func TestP101InputsOfOthers(t *testing.T) {
	for _, o := range ops() {
		if o.Kind == api.OpUnion {
			continue
		}
		for _, count := range []int{0, 1, 2, api.MaxPorts, api.MaxPorts + 1, 1000} {
			o.In = make([]api.Edge, count)
			b := fresh(t, o, 2)
			if b.task.Inputs() != 1 {
				t.Errorf("%v: Inputs %d", o, b.task.Inputs())
			}
			b.mustFeed(0, rec(1, 1))
			b.drain(1, 1, 1, 1)
		}
	}
}

func TestP101Unions(t *testing.T) {
	for _, inputs := range []int{2, 3, api.MaxPorts} {
		if b := fresh(t, union(inputs), 2); b.task.Inputs() != inputs {
			t.Errorf("%d inputs: Inputs = %d", inputs, b.task.Inputs())
		}
	}
	for _, inputs := range []int{0, 1, api.MaxPorts + 1, 100, 1 << 16} {
		o := union(inputs)
		checkNewRefused(t, o, 2)
		checkRefused(t, api.ErrArg, o, 2, api.TaskState{})
		checkRefused(t, api.ErrArg, o, 2, nothing(o))
	}
	// Where its inputs come from, and fields that it does not have, do not matter.
	o := api.Op{Kind: api.OpUnion, Part: -1, Fn: 99, Arg: least, In: []api.Edge{{From: -5, Port: 9}, {From: -5, Port: 9}}}
	b := fresh(t, o, 2)
	b.mustFeed(0, rec(1, 2))
	b.drain(1)
}

func TestP101Routes(t *testing.T) {
	for arg := int64(2); arg <= api.MaxPorts; arg++ {
		fresh(t, route(arg), 2)
		from(t, route(arg), 2, api.TaskState{})
	}
	for _, arg := range []int64{0, 1, api.MaxPorts + 1, -1, -2, -4, 1<<32 + 2, most, least} {
		checkNewRefused(t, route(arg), 2)
		checkRefused(t, api.ErrArg, route(arg), 2, api.TaskState{})
	}
}

// TestP101OtherFields: what graph.Check would not take of them is a task none the less.
func TestP101OtherFields(t *testing.T) {
	for _, o := range []api.Op{
		{Kind: api.OpSource, Part: -1},
		{Kind: api.OpSource, Part: api.MaxParts, Arg: 5, Fn: 3},
		plain(api.OpMap, 0, 4), plain(api.OpMap, 99, 4), plain(api.OpFilter, -1, 0), plain(api.OpKey, 7, 0), plain(api.OpKey, api.FnMod, 0),
		fold(0), fold(9), window(api.FnSum, 0), window(api.FnSum, -1), window(api.FnSum, api.MaxCount+1), window(api.FnSum, least), window(77, 2),
		plain(api.OpSink, 5, 5),
	} {
		b := fresh(t, o, 3, []api.Event{rec(1, 4), rec(2, 5), bar(9)})
		b.drain(1)
		if b.task.Passed() != 9 {
			t.Errorf("%v: Passed %d", o, b.task.Passed())
		}
	}
}

func TestP101Room(t *testing.T) {
	for _, o := range ops() {
		for _, room := range []int{1, 2, api.MaxQueue - 1, api.MaxQueue} {
			b := fresh(t, o, room)
			from(t, o, room, nothing(o))
			last := b.task.Inputs() - 1
			for n := range room {
				if got := b.task.Left(last); got != room-n {
					t.Fatalf("%v, room %d: Left %d behind %d", o, room, got, n)
				}
				if e := b.task.Feed(last, rec(1, 1)); e != api.OK {
					t.Fatalf("%v, room %d: Feed behind %d: %d", o, room, n, e)
				}
			}
			if e := b.task.Feed(last, rec(1, 1)); e != api.ErrFull || b.task.Left(last) != 0 {
				t.Errorf("%v, room %d: one more: %d, Left %d", o, room, e, b.task.Left(last))
			}
		}
		for _, room := range []int{0, -1, api.MaxQueue + 1, -api.MaxQueue, 1<<32 + 1, most, least} {
			checkNewRefused(t, o, room)
			checkRefused(t, api.ErrArg, o, room, nothing(o))
		}
	}
}

func turned(turn int, buffers ...[]api.Record) api.TaskState {
	return api.TaskState{State: api.OpState{Turn: turn}, Buffers: buffers}
}

func keyed(keys ...api.KeyState) api.TaskState {
	return api.TaskState{State: api.OpState{Keys: keys}}
}

func TestP101States(t *testing.T) {
	for inputs := 2; inputs <= api.MaxPorts; inputs++ {
		for turn := range inputs {
			from(t, union(inputs), 2, turned(turn, make([][]api.Record, inputs)...))
		}
		for _, turn := range []int{-1, inputs, inputs + 1, most, least} {
			checkRefused(t, api.ErrState, union(inputs), 2, turned(turn, make([][]api.Record, inputs)...))
		}
	}
	one := api.KeyState{Key: 1, Count: 1, Acc: 8}
	for _, o := range ops() {
		if o.Kind != api.OpUnion {
			checkRefused(t, api.ErrState, o, 2, turned(1))
			checkRefused(t, api.ErrState, o, 2, turned(-1))
		}
		if o.Kind != api.OpFold && o.Kind != api.OpWindow {
			s := nothing(o)
			s.State.Keys = []api.KeyState{one}
			checkRefused(t, api.ErrState, o, 2, s)
		}
	}
	from(t, fold(api.FnSum), 2, keyed(one, api.KeyState{Key: 2, Count: api.MaxNum, Acc: least}))
	from(t, window(api.FnSum, 3), 2, keyed(api.KeyState{Key: -1, Count: 2}, one))
	for _, s := range []api.TaskState{
		keyed(one, one), keyed(api.KeyState{Key: 2, Count: 1}, one), keyed(api.KeyState{Key: 1}), keyed(api.KeyState{Key: 1, Count: -1}), keyed(api.KeyState{Count: api.MaxNum + 1}),
	} {
		checkRefused(t, api.ErrState, fold(api.FnSum), 2, s)
		checkRefused(t, api.ErrState, window(api.FnSum, 3), 2, s)
	}
	checkRefused(t, api.ErrState, window(api.FnSum, 3), 2, keyed(api.KeyState{Count: 3}))
	checkRefused(t, api.ErrState, window(api.FnSum, 1), 2, keyed(one))
}

func TestP101Buffers(t *testing.T) {
	some := records(rec(1, 1), rec(2, 2))
	for inputs := 2; inputs <= api.MaxPorts; inputs++ {
		for count := range api.MaxPorts + 3 {
			s := turned(0, make([][]api.Record, count)...)
			if count == inputs {
				from(t, union(inputs), 2, s)
				s.Buffers[count-1] = some
				from(t, union(inputs), 2, s)
				continue
			}
			checkRefused(t, api.ErrArg, union(inputs), 2, s)
			if count > 0 {
				s.Buffers[count-1] = some
				checkRefused(t, api.ErrArg, union(inputs), 2, s)
			}
		}
	}
	for _, o := range ops() {
		if o.Kind != api.OpUnion {
			checkRefused(t, api.ErrArg, o, 2, turned(0, nil))
			checkRefused(t, api.ErrArg, o, 2, turned(0, some))
			checkRefused(t, api.ErrArg, o, 2, turned(0, nil, nil))
		}
	}
}

// TestR2WhichErrorFirst: ErrArg of the operator and of the room ahead of ErrState, and that ahead of ErrArg of the buffers.
func TestR2WhichErrorFirst(t *testing.T) {
	bad := turned(-1)
	for _, o := range []api.Op{{}, {Kind: 10}, union(1), union(0), union(5), route(1), route(5), route(-2)} {
		checkRefused(t, api.ErrArg, o, 2, bad)
		checkRefused(t, api.ErrArg, o, 0, bad)
		checkRefused(t, api.ErrArg, o, 2, keyed(api.KeyState{}))
	}
	for _, o := range ops() {
		checkRefused(t, api.ErrArg, o, 0, bad)
		checkRefused(t, api.ErrArg, o, api.MaxQueue+1, bad)
		checkRefused(t, api.ErrState, o, 2, bad)
		checkRefused(t, api.ErrState, o, 2, turned(-1, make([][]api.Record, 7)...))
		checkRefused(t, api.ErrState, o, 2, turned(9, nil))
	}
}

func TestP101Feed(t *testing.T) {
	wrong := []api.Event{
		{}, {Kind: 3}, {Kind: -1}, {Kind: api.EvRecord, Id: 1}, {Kind: api.EvRecord, Id: -1, Record: api.Record{Key: 1}},
		bar(0), bar(-1), bar(api.MaxNum + 1), {Kind: api.EvBarrier, Id: 1, Record: api.Record{Val: 1}}, {Kind: api.EvBarrier, Id: 1, Record: api.Record{Key: -1}},
	}
	for _, o := range ops() {
		b := fresh(t, o, 2)
		count := b.task.Inputs()
		for _, input := range []int{-1, count, count + 1, least, most} {
			// Of no input nothing else is looked at, neither.
			for _, e := range append([]api.Event{rec(1, 1), bar(1)}, wrong...) {
				if got := b.feed(input, e); got != api.ErrArg {
					t.Errorf("%v: Feed(%d, %v) = %d", o, input, e, got)
				}
			}
		}
		for input := range count {
			for _, e := range wrong {
				if got := b.feed(input, e); got != api.ErrArg {
					t.Errorf("%v: Feed(%d, %v) = %d", o, input, e, got)
				}
			}
			b.mustFeed(input, bar(5))
			if got := b.feed(input, bar(5)); got != api.ErrPast {
				t.Errorf("%v: the same barrier: %d", o, got)
			}
			if got := b.feed(input, bar(4)); got != api.ErrPast {
				t.Errorf("%v: an older barrier: %d", o, got)
			}
			b.mustFeed(input, rec(1, 1))
			for _, e := range []api.Event{rec(2, 2), bar(6), bar(5)} {
				if got := b.feed(input, e); got != api.ErrFull {
					t.Errorf("%v: Feed(%d, %v) of a full one = %d", o, input, e, got)
				}
			}
			if got := b.feed(input, wrong[0]); got != api.ErrArg {
				t.Errorf("%v: wrong, of a full one: %d", o, got)
			}
		}
	}
}

// TestP101PastIsPast: a barrier is past also when it went out already.
func TestP101PastIsPast(t *testing.T) {
	for _, o := range ops() {
		b := fresh(t, o, 3)
		for input := range b.task.Inputs() {
			b.mustFeed(input, bar(5))
		}
		b.drain(1, 1, 1, 1)
		for input := range b.task.Inputs() {
			for _, id := range []int64{1, 4, 5} {
				if got := b.feed(input, bar(id)); got != api.ErrPast {
					t.Errorf("%v: Feed(%d, bar(%d)) = %d", o, input, id, got)
				}
			}
			b.mustFeed(input, bar(6))
		}
	}
}

func TestP101LeftRisesWhenTaken(t *testing.T) {
	for _, o := range ops() {
		b := fresh(t, o, 2)
		last := b.task.Inputs() - 1
		b.mustFeed(last, rec(1, 1), rec(1, 1))
		b.drain(5, 5, 5, 5)
		if got := b.task.Left(last); got != 2 {
			t.Errorf("%v: Left %d", o, got)
		}
	}
}

// atBarriers is a union to which barriers 3 and 8 were fed, records ahead of each.
func atBarriers(t *testing.T) both {
	return fresh(t, union(2), 8,
		[]api.Event{rec(1, 1), rec(2, 2), bar(3), rec(3, 3), bar(8), rec(4, 4)},
		[]api.Event{bar(3), bar(8)})
}

func TestP103AsideAndPassed(t *testing.T) {
	b := atBarriers(t)
	none := func(ids ...int64) {
		t.Helper()
		for _, id := range ids {
			if s, ok := b.task.Aside(id); ok || !sameState(s, api.TaskState{}) || s.Buffers != nil || s.State.Keys != nil {
				t.Errorf("Aside(%d) = %v, %v", id, s, ok)
			}
		}
	}
	if got := b.task.Passed(); got != 0 {
		t.Errorf("Passed of none: %d", got)
	}
	none(0, 1, 3, 8, -1, most, least)
	for b.task.Passed() == 0 && !t.Failed() {
		b.step(1)
	}
	want := turned(1, records(rec(2, 2)), nil)
	if s, ok := b.task.Aside(3); !ok || !sameState(s, want) || b.task.Passed() != 3 {
		t.Errorf("Aside(3) = %v, %v, Passed %d", s, ok, b.task.Passed())
	}
	none(0, 1, 2, 4, 8, -3, most, least)
	for b.task.Passed() == 3 && !t.Failed() {
		// It stays as it was, whatever is kept meanwhile.
		if s, ok := b.task.Aside(3); !ok || !sameState(s, want) {
			t.Errorf("Aside(3) = %v, %v", s, ok)
		}
		b.step(1)
	}
	want = turned(1, records(rec(2, 2), rec(3, 3)), nil)
	if s, ok := b.task.Aside(8); !ok || !sameState(s, want) || b.task.Passed() != 8 {
		t.Errorf("Aside(8) = %v, %v, Passed %d", s, ok, b.task.Passed())
	}
	none(0, 1, 3, 7, 9, -8, most, least)
	b.drain(1)
	if s, ok := b.task.Aside(8); !ok || !sameState(s, want) {
		t.Errorf("Aside(8) later = %v, %v", s, ok)
	}
}

// TestP103AsideOfKeys: what an OpFold and an OpWindow keep goes on behind the barrier, and what is set aside does not.
func TestP103AsideOfKeys(t *testing.T) {
	events := []api.Event{rec(1, 5), rec(2, 6), bar(4), rec(1, 7), rec(3, 1), bar(5), rec(2, 2)}
	for _, c := range []struct {
		o           api.Op
		first, next api.TaskState
	}{
		{fold(api.FnSum), keyed(api.KeyState{Key: 1, Count: 1, Acc: 5}, api.KeyState{Key: 2, Count: 1, Acc: 6}), keyed(api.KeyState{Key: 1, Count: 2, Acc: 12}, api.KeyState{Key: 2, Count: 1, Acc: 6}, api.KeyState{Key: 3, Count: 1, Acc: 1})},
		{window(api.FnSum, 2), keyed(api.KeyState{Key: 1, Count: 1, Acc: 5}, api.KeyState{Key: 2, Count: 1, Acc: 6}), keyed(api.KeyState{Key: 2, Count: 1, Acc: 6}, api.KeyState{Key: 3, Count: 1, Acc: 1})},
	} {
		b := fresh(t, c.o, 8, events)
		for range events {
			b.step(1)
			switch s, ok := b.task.Aside(b.task.Passed()); b.task.Passed() {
			case 4:
				if !ok || !sameState(s, c.first) {
					t.Errorf("%v: Aside(4) = %v, %v", c.o, s, ok)
				}
			case 5:
				if !ok || !sameState(s, c.next) {
					t.Errorf("%v: Aside(5) = %v, %v", c.o, s, ok)
				}
			}
		}
		if b.task.Passed() != 5 {
			t.Errorf("%v: Passed %d", c.o, b.task.Passed())
		}
	}
}

func TestP103Plain(t *testing.T) {
	b := atBarriers(t)
	want := api.Task{
		Now: turned(0, nil, nil),
		Queues: [][]api.Event{
			{rec(1, 1), rec(2, 2), bar(3), rec(3, 3), bar(8), rec(4, 4)},
			{bar(3), bar(8)},
		},
	}
	check := func() {
		t.Helper()
		if got := b.task.Plain(); !sameTask(got, want) {
			t.Errorf("Plain = %v; want %v", got, want)
		}
	}
	check()
	b.step(1)
	want.Now = turned(0, records(rec(1, 1)), nil)
	want.Queues[0] = want.Queues[0][1:]
	check()
	b.step(1)
	want.Now = turned(1, nil, nil)
	check()
	b.step(1)
	want.Now = turned(1, records(rec(2, 2)), nil)
	want.Queues[0] = want.Queues[0][1:]
	check()
	b.step(1)
	want.Queues = [][]api.Event{{rec(3, 3), bar(8), rec(4, 4)}, {bar(8)}}
	check()
}
