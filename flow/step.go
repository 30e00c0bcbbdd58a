package flow

import (
	"slices"

	"pontoon/api"
)

// Step has that operator do something: whether it did.
func (f *Flow) Step(op int) bool {
	if !f.has(op) {
		return false
	}
	part, fed := f.feeds(op)
	if fed {
		f.feed(op, part)
	}
	out, done := f.tasks[op].Step(f.rooms(op)...)
	for _, o := range out {
		f.send(op, o)
	}
	return fed || done
}

// Can tells whether Step would do something.
func (f *Flow) Can(op int) bool {
	if !f.has(op) {
		return false
	}
	_, feeds := f.feeds(op)
	return feeds || f.tasks[op].Can(f.rooms(op)...)
}

// Drain steps all operators, by numbers, until none does anything: how many steps did something.
func (f *Flow) Drain() int {
	if !f.made() {
		return 0
	}
	count, idle := 0, 0 // idle: steps, one behind the other, that did nothing
rounds:
	for {
		for op := range f.tasks {
			if f.Step(op) {
				count, idle = count+1, 0
				continue
			}
			idle++
			if idle == len(f.tasks) {
				break rounds
			}
		}
	}
	return count
}

// has tells whether there is such an operator.
func (f *Flow) has(op int) bool {
	return f.made() && op >= 0 && op < len(f.tasks)
}

// feeds tells of which partition an event can be fed to that operator, if it is a source.
func (f *Flow) feeds(op int) (int, bool) {
	part := slices.Index(f.sources, op)
	return part, part >= 0 && len(f.waits[part]) > 0 && f.tasks[op].Left(0) > 0
}

// feed takes the first event that waits ahead of the source of that partition.
func (f *Flow) feed(source, part int) {
	f.tasks[source].Feed(0, f.waits[part][0])
	// The others do not move up: the memory of what is gone is used up, or given up, when so many more have come, or when none is left.
	f.waits[part] = f.waits[part][1:]
	if len(f.waits[part]) == 0 {
		f.waits[part] = nil
	}
}

// rooms answers for how many events there is room where each port of that operator leads.
func (f *Flow) rooms(op int) []int {
	if op == f.sink {
		return []int{1}
	}
	rooms := make([]int, len(f.leads[op]))
	for port, to := range f.leads[op] {
		rooms[port] = f.tasks[to.op].Left(to.place)
	}
	return rooms
}

// send has what goes out of that operator come to where it is meant to.
func (f *Flow) send(op int, o api.Out) {
	switch {
	case op != f.sink:
		to := f.leads[op][o.Port]
		f.tasks[to.op].Feed(to.place, o.Event)
	case o.Event.Kind == api.EvRecord:
		f.out = append(f.out, o.Event.Record)
	default:
		f.passed, f.last.out = o.Event.Id, f.Count()
	}
}
