package task

import (
	"pontoon/api"
	"pontoon/oper"
)

// deed is something that a task can do, if there is room for what goes out of it.
type deed struct {
	do  func()
	out []api.Out
}

// Step does the first thing that can be done, and answers what goes out; left is the room at each port.
func (t *Task) Step(left ...int) ([]api.Out, bool) {
	d, can := t.next(left)
	if !can {
		return nil, false
	}
	d.do()
	return d.out, true
}

// Can tells whether Step would do something.
func (t *Task) Can(left ...int) bool {
	_, can := t.next(left)
	return can
}

// next tells what is to be done, and changes nothing.
func (t *Task) next(left []int) (deed, bool) {
	if !t.made() {
		return deed{}, false
	}
	if d, can := t.turn(); can && d.hasRoom(left) {
		return d, true
	}
	d, can := t.search()
	return d, can && d.hasRoom(left)
}

// hasRoom tells whether there is room at each port for what goes out.
func (d deed) hasRoom(left []int) bool {
	var needed [api.MaxPorts]int
	for _, o := range d.out {
		needed[o.Port]++
		if o.Port >= len(left) || needed[o.Port] > left[o.Port] {
			return false
		}
	}
	return true
}

// turn tells what an OpUnion does with the buffer whose turn it is.
func (t *Task) turn() (deed, bool) {
	whose := t.whose
	if whose >= len(t.buffers) || len(t.buffers[whose].rest()) == 0 {
		return deed{}, false
	}
	take := func() {
		t.buffers[whose].drop()
		t.whose = (whose + 1) % len(t.buffers)
	}
	return deed{take, recordOut(0, t.buffers[whose].rest()[0])}, true
}

// search goes through the inputs: a record that waits at one of them comes before a barrier that waits at all.
func (t *Task) search() (deed, bool) {
	var barrier api.Event
	alike := 0 // inputs at which that barrier waits
	at, found := 0, false
search:
	for i, q := range t.queues {
		first, waits := q.Peek()
		switch {
		case !waits:
			continue search
		case first.Kind == api.EvRecord:
			at, found = i, true
			break search
		case alike == 0:
			barrier = first
		case first != barrier:
			continue search
		}
		alike++
	}
	switch {
	case found:
		return t.record(at), true
	case alike == len(t.queues):
		return t.barrier(barrier), true
	}
	return deed{}, false
}

// record tells what is done with the record that waits first at that input.
func (t *Task) record(input int) deed {
	q := t.queues[input]
	first, _ := q.Peek()
	r := first.Record
	switch t.op.Kind {
	case api.OpUnion:
		return deed{do: func() { q.Take(); t.buffers[input].put(r) }}
	case api.OpSink:
		return deed{func() { q.Take() }, recordOut(0, r)}
	}
	// What goes out, and what is kept of a key, hang on that key alone: the others are not handed over, as they would be copied.
	state, puts := oper.Step(t.op, api.OpState{Keys: t.shelf.of(r.Key)}, r)
	var out []api.Out
	for _, p := range puts {
		out = append(out, recordOut(p.Port, p.Record)...)
	}
	return deed{func() { q.Take(); t.shelf.put(r.Key, state.Keys) }, out}
}

// barrier tells what is done with a barrier that waits first at all inputs.
func (t *Task) barrier(e api.Event) deed {
	var out []api.Out
	for port := range portCount(t.op) {
		out = append(out, api.Out{Port: port, Event: e})
	}
	pass := func() {
		for _, q := range t.queues {
			q.Take()
		}
		t.aside, t.passed = t.keeps(), e.Id
	}
	return deed{pass, out}
}

func recordOut(port int, r api.Record) []api.Out {
	return []api.Out{{Port: port, Event: api.Event{Kind: api.EvRecord, Record: r}}}
}
