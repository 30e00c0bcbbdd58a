package task_test

import (
	"testing"

	"pontoon/api"
)

// one is room for one event at port 0.
func one() []int { return []int{1} }

// full is room at all ports.
func full() []int { return []int{9, 9, 9, 9} }

func TestExample(t *testing.T) {
	a, second, x := rec(1, 1), rec(2, 2), rec(3, 3)
	b := fresh(t, union(2), 4, []api.Event{a, second}, []api.Event{x})
	b.does(one())
	b.does(one(), outs(0, a)...)
	b.does(one())
	b.does(one())
	b.does(one(), outs(0, x)...)
	b.does(one(), outs(0, second)...)
	b.stuck(1)
}

func TestP102NothingWaits(t *testing.T) {
	for _, o := range ops() {
		b := fresh(t, o, 2)
		for _, left := range rooms() {
			b.stuck(left...)
		}
	}
}

// TestP102OneByOne: operators that let one record out for each.
func TestP102OneByOne(t *testing.T) {
	for _, c := range []struct {
		o    api.Op
		want api.Event
	}{
		{api.Op{Kind: api.OpSource}, rec(8, 3)},
		{plain(api.OpMap, api.FnAdd, 5), rec(8, 8)},
		{plain(api.OpFilter, api.FnOdd, 0), rec(8, 3)},
		{plain(api.OpKey, api.FnMod, 3), rec(2, 3)},
		{fold(api.FnCount), rec(8, 1)},
		{window(api.FnSum, 1), rec(8, 3)},
		{plain(api.OpSink, 0, 0), rec(8, 3)},
	} {
		for _, left := range rooms() {
			b := fresh(t, c.o, 2, []api.Event{rec(8, 3)})
			if roomAt(left, 0) > 0 {
				b.does(left, outs(0, c.want)...)
			} else {
				b.stuck(left...)
				// It waits, until there is room.
				b.does(one(), outs(0, c.want)...)
			}
			b.stuck(full()...)
		}
	}
}

// TestP102NothingOut: what lets nothing out needs no room.
func TestP102NothingOut(t *testing.T) {
	for _, left := range rooms() {
		fresh(t, plain(api.OpFilter, api.FnOdd, 0), 2, []api.Event{rec(1, 2)}).does(left)
		fresh(t, window(api.FnSum, 2), 2, []api.Event{rec(1, 2)}).does(left)
	}
	// What a window lets out needs it.
	b := fresh(t, window(api.FnSum, 2), 4, []api.Event{rec(1, 2), rec(2, 9), rec(1, 5), rec(2, 1)})
	b.does(nil)
	b.does([]int{0})
	b.stuck()
	b.stuck(0, 1)
	b.stuck(-1)
	if got := b.task.Plain().Now; !sameState(got, keyed(api.KeyState{Key: 1, Count: 1, Acc: 2}, api.KeyState{Key: 2, Count: 1, Acc: 9})) {
		t.Errorf("it keeps %v", got)
	}
	b.does(one(), outs(0, rec(1, 7))...)
	b.does(one(), outs(0, rec(2, 10))...)
	b.stuck(1)
}

func TestP102Fold(t *testing.T) {
	b := fresh(t, fold(api.FnSum), 4, []api.Event{rec(1, 2), rec(2, 9), rec(1, most), rec(1, 5)})
	b.does(one(), outs(0, rec(1, 2))...)
	b.stuck(0)
	b.does(one(), outs(0, rec(2, 9))...)
	b.does(one(), outs(0, rec(1, least+1))...)
	b.does(one(), outs(0, rec(1, least+6))...)
	want := keyed(api.KeyState{Key: 1, Count: 3, Acc: least + 6}, api.KeyState{Key: 2, Count: 1, Acc: 9})
	if got := b.task.Plain().Now; !sameState(got, want) {
		t.Errorf("it keeps %v", got)
	}
	// One that is made of what it keeps goes on from there.
	c := from(t, fold(api.FnSum), 4, want)
	c.mustFeed(0, rec(2, 1))
	c.does(one(), outs(0, rec(2, 10))...)
}

func TestP102Route(t *testing.T) {
	for arg := int64(2); arg <= api.MaxPorts; arg++ {
		for key := -2 * arg; key <= 2*arg; key++ {
			port := int((key%arg + arg) % arg)
			b := fresh(t, route(arg), 2, []api.Event{rec(key, 7)})
			// At each port but this one there is room.
			left := full()
			left[port] = 0
			b.stuck(left...)
			left[port] = -1
			b.stuck(left...)
			b.stuck(full()[:port]...)
			// At this one alone.
			left = make([]int, port+1)
			left[port] = 1
			b.does(left, outs(port, rec(key, 7))...)
		}
	}
	// One that has no room stops those behind it, also if they go elsewhere.
	b := fresh(t, route(2), 4, []api.Event{rec(0, 1), rec(1, 2), rec(2, 3)})
	b.stuck(0, 5)
	b.does([]int{1, 0}, outs(0, rec(0, 1))...)
	b.stuck(5, 0)
	b.does([]int{0, 1}, outs(1, rec(1, 2))...)
	b.does([]int{1}, outs(0, rec(2, 3))...)
}

// TestP102TurnAheadOfInputs: a record of the buffer whose turn it is goes out ahead of what waits, if there is room, and else what waits is taken.
func TestP102TurnAheadOfInputs(t *testing.T) {
	start := func() both {
		b := from(t, union(2), 4, turned(1, records(rec(1, 1)), records(rec(2, 2), rec(3, 3))))
		b.mustFeed(0, rec(4, 4))
		return b
	}
	b := start()
	b.does(one(), outs(0, rec(2, 2))...)
	b.does(one(), outs(0, rec(1, 1))...)
	b.does(one(), outs(0, rec(3, 3))...)
	b.does(one())
	b.does(one(), outs(0, rec(4, 4))...)
	b.stuck(1)
	for _, left := range [][]int{nil, {0}, {-1}, {0, 5, 5, 5}} {
		b := start()
		b.does(left)
		b.stuck(left...)
		for _, e := range []api.Event{rec(2, 2), rec(1, 1), rec(3, 3), rec(4, 4)} {
			b.does(one(), outs(0, e)...)
		}
		b.stuck(1)
	}
}

// TestP102TurnOfAnother: other buffers have records, but not the one whose turn it is.
func TestP102TurnOfAnother(t *testing.T) {
	for inputs := 2; inputs <= api.MaxPorts; inputs++ {
		for turn := range inputs {
			s := turned(turn, make([][]api.Record, inputs)...)
			for i := range inputs {
				if i != turn {
					s.Buffers[i] = records(rec(int64(i), 1), rec(int64(i), 2))
				}
			}
			b := from(t, union(inputs), 2, s)
			b.stuck(full()...)
			b.mustFeed(turn, rec(99, 0))
			b.does(one())
			b.does(one(), outs(0, rec(99, 0))...)
			for i := range inputs - 1 {
				whose := (turn + 1 + i) % inputs
				b.does(one(), outs(0, rec(int64(whose), 1))...)
			}
			b.stuck(full()...)
			if got := b.task.Plain().Now.State.Turn; got != turn {
				t.Errorf("%d inputs: from %d on, and round: %d", inputs, turn, got)
			}
		}
	}
}

// TestP102FirstInput: of the first input at which a record waits; each one that could be taken is taken ahead of a barrier.
func TestP102FirstInput(t *testing.T) {
	b := fresh(t, union(4), 4, nil, []api.Event{bar(1), rec(9, 9)}, []api.Event{rec(2, 2)}, []api.Event{rec(3, 3)})
	b.does(nil)
	if got := b.task.Plain().Now; !sameState(got, turned(0, nil, nil, records(rec(2, 2)), nil)) {
		t.Errorf("it keeps %v", got)
	}
	b.mustFeed(0, rec(0, 0))
	b.does(nil)
	if got := b.task.Plain().Now; !sameState(got, turned(0, records(rec(0, 0)), nil, records(rec(2, 2)), nil)) {
		t.Errorf("it keeps %v", got)
	}
	b.does(nil)
	if got := b.task.Plain().Now; !sameState(got, turned(0, records(rec(0, 0)), nil, records(rec(2, 2)), records(rec(3, 3)))) {
		t.Errorf("it keeps %v", got)
	}
	b.stuck()
	b.does(one(), outs(0, rec(0, 0))...)
	// The record behind the barrier is the one whose turn it is, and has to wait for it.
	b.stuck(full()...)
	for _, input := range []int{0, 2, 3} {
		b.mustFeed(input, bar(1))
	}
	b.does(one(), outs(0, bar(1))...)
	b.does(one())
	for _, e := range []api.Event{rec(9, 9), rec(2, 2), rec(3, 3)} {
		b.does(one(), outs(0, e)...)
	}
	b.stuck(1)
}

func TestP102Barrier(t *testing.T) {
	for _, o := range ops() {
		ports := portsOf(o)
		for _, left := range rooms() {
			b := fresh(t, o, 2)
			for input := range b.task.Inputs() {
				b.stuck(full()...)
				b.mustFeed(input, bar(6))
			}
			var want []api.Out
			room := true
			for port := range ports {
				want = append(want, outs(port, bar(6))...)
				room = room && roomAt(left, port) > 0
			}
			if room {
				b.does(left, want...)
			} else {
				b.stuck(left...)
				b.does(full(), want...)
			}
			b.stuck(full()...)
			if s, ok := b.task.Aside(6); !ok || !sameState(s, nothing(o)) {
				t.Errorf("%v: Aside = %v, %v", o, s, ok)
			}
		}
	}
}

// TestP102BarrierTooLittleRoom: at each port but one there is room.
func TestP102BarrierTooLittleRoom(t *testing.T) {
	for arg := int64(2); arg <= api.MaxPorts; arg++ {
		for port := range int(arg) {
			b := fresh(t, route(arg), 2, []api.Event{bar(6)})
			left := full()
			left[port] = 0
			b.stuck(left...)
			left[port] = least
			b.stuck(left...)
			b.stuck(full()[:port]...)
			if b.task.Passed() != 0 {
				t.Errorf("Passed %d", b.task.Passed())
			}
			left[port] = 1
			b.step(left[:arg]...)
			if b.task.Passed() != 6 {
				t.Errorf("Passed %d", b.task.Passed())
			}
		}
	}
}

func TestP102BarrierAtSomeInputs(t *testing.T) {
	for inputs := 2; inputs <= api.MaxPorts; inputs++ {
		for lacks := range inputs {
			b := fresh(t, union(inputs), 3)
			for input := range inputs {
				if input != lacks {
					b.mustFeed(input, bar(2), rec(int64(input), 0))
				}
			}
			b.stuck(full()...)
			// A record there goes ahead of it.
			b.mustFeed(lacks, rec(50, 0))
			b.does(full())
			b.drain(full()...)
			b.mustFeed(lacks, bar(2))
			b.does(full(), outs(0, bar(2))...)
			if got := b.task.Passed(); got != 2 {
				t.Errorf("Passed %d", got)
			}
		}
	}
}

func TestP102OtherIds(t *testing.T) {
	for inputs := 2; inputs <= api.MaxPorts; inputs++ {
		for other := range inputs {
			for _, id := range []int64{1, 6, 8, api.MaxNum} {
				b := fresh(t, union(inputs), 3)
				for input := range inputs {
					if input == other {
						b.mustFeed(input, bar(id), rec(1, 1))
						continue
					}
					b.mustFeed(input, bar(7), bar(9))
				}
				b.stuck(full()...)
				b.stuck()
				if b.task.Passed() != 0 {
					t.Errorf("Passed %d", b.task.Passed())
				}
			}
		}
	}
	// Two each: none of the Ids waits at all inputs.
	b := fresh(t, union(4), 3, []api.Event{bar(1)}, []api.Event{bar(2)}, []api.Event{bar(1)}, []api.Event{bar(2)})
	b.stuck(full()...)
	// What waits in the buffers still goes out.
	c := from(t, union(2), 3, turned(0, records(rec(1, 1)), records(rec(2, 2))))
	c.mustFeed(0, bar(1))
	c.mustFeed(1, bar(2))
	c.does(one(), outs(0, rec(1, 1))...)
	c.does(one(), outs(0, rec(2, 2))...)
	c.stuck(full()...)
}

// TestP102BuffersAheadOfBarrier: what is in the buffers and may go out goes out ahead of it, the rest is set aside.
func TestP102BuffersAheadOfBarrier(t *testing.T) {
	b := from(t, union(2), 3, turned(1, records(rec(1, 1)), records(rec(2, 2))))
	b.mustFeed(0, bar(4))
	b.mustFeed(1, bar(4))
	b.stuck(0)
	b.does(one(), outs(0, rec(2, 2))...)
	b.does(one(), outs(0, rec(1, 1))...)
	b.does(one(), outs(0, bar(4))...)
	b = from(t, union(2), 3, turned(1, records(rec(1, 1)), nil))
	b.mustFeed(0, bar(4))
	b.mustFeed(1, bar(4))
	b.stuck(0)
	b.does(one(), outs(0, bar(4))...)
	if s, ok := b.task.Aside(4); !ok || !sameState(s, turned(1, records(rec(1, 1)), nil)) {
		t.Errorf("Aside = %v, %v", s, ok)
	}
}

func TestP102SecondBarrier(t *testing.T) {
	for _, o := range ops() {
		b := fresh(t, o, 4)
		for input := range b.task.Inputs() {
			b.mustFeed(input, bar(3), bar(api.MaxNum))
		}
		for _, id := range []int64{3, api.MaxNum} {
			var want []api.Out
			for port := range portsOf(o) {
				want = append(want, outs(port, bar(id))...)
			}
			b.does(full(), want...)
			if b.task.Passed() != id {
				t.Errorf("%v: Passed %d", o, b.task.Passed())
			}
		}
		b.stuck(full()...)
	}
}

// TestP102BarrierWaitsForRecords: a record ahead of it that has no room keeps it back.
func TestP102BarrierWaitsForRecords(t *testing.T) {
	b := fresh(t, route(2), 4, []api.Event{rec(1, 1), bar(3), rec(0, 2)})
	b.stuck(9, 0)
	b.does([]int{0, 1}, outs(1, rec(1, 1))...)
	b.stuck(9)
	b.does([]int{1, 1}, append(outs(0, bar(3)), outs(1, bar(3))...)...)
	b.does([]int{1}, outs(0, rec(0, 2))...)
}

func TestP102Sink(t *testing.T) {
	b := fresh(t, plain(api.OpSink, 0, 0), 4, []api.Event{rec(1, 1), rec(1, 1), bar(3), rec(0, 2)})
	b.stuck()
	b.stuck(0, 1)
	b.does(one(), outs(0, rec(1, 1))...)
	b.does(one(), outs(0, rec(1, 1))...)
	b.stuck(0)
	b.does(one(), outs(0, bar(3))...)
	b.does(one(), outs(0, rec(0, 2))...)
	b.stuck(1)
}
