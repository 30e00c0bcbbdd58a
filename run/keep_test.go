package run_test

import (
	"slices"
	"testing"

	"pontoon/api"
	"pontoon/graph"
	"pontoon/oper"
	"pontoon/run"
)

// scribble writes to each place of a list, and behind its end.
func scribble(l []api.Record) {
	l = l[:cap(l)]
	for i := range l {
		l[i] = api.Record{Key: -99, Val: -99}
	}
}

func scribbleKeys(l []api.KeyState) {
	l = l[:cap(l)]
	for i := range l {
		l[i] = ks(-99, -99, -99)
	}
}

// wide is a graph with all kinds of operators, two partitions, and a route of three ports.
func wide() api.Graph {
	return of(2,
		source(1),
		source(0),
		route(3, 1),
		api.Op{Kind: api.OpKey, Fn: api.FnMod, Arg: 2, In: []api.Edge{{From: 2, Port: 2}}},
		api.Op{Kind: api.OpFilter, Fn: api.FnLess, Arg: 90, In: []api.Edge{{From: 2, Port: 0}}},
		union(api.Edge{From: 4}, api.Edge{From: 0}, api.Edge{From: 2, Port: 1}, api.Edge{From: 3}),
		api.Op{Kind: api.OpWindow, Fn: api.FnSum, Arg: 2, In: in(5)},
		api.Op{Kind: api.OpMap, Fn: api.FnXor, Arg: 1, In: in(6)},
		api.Op{Kind: api.OpFold, Fn: api.FnMin, In: in(7)},
		sink(8),
	)
}

func widePrefixes() [][]api.Record {
	return [][]api.Record{
		recs(0, 1, 1, 2, 2, 3, 3, 4, 1, 5, 2, 6, 0, 7, 4, 8, 5, 9, 0, 10, 0, 11),
		recs(1, 21, 2, 22, 1, 23, 3, 24, 1, 25, 1, 26),
	}
}

// graphs are some that graph.Check takes, and prefixes of each.
func graphs() map[string]struct {
	g        api.Graph
	prefixes [][]api.Record
} {
	type some = struct {
		g        api.Graph
		prefixes [][]api.Record
	}
	return map[string]some{
		"wide":     {wide(), widePrefixes()},
		"two":      {two(), speltAll("abcdef", "xyz")},
		"line":     {of(1, source(0), sink(0)), speltAll("abcdef")},
		"greatest": {greatest(), speltAll("abc", "defg", "h", "ijklm")},
	}
}

// kept is all that the calls answer of a graph, in memory of its own.
type kept struct {
	out    []api.Record
	ports  [][][]api.Record
	states []api.TaskState
}

func askAll(t *testing.T, g api.Graph, prefixes [][]api.Record) kept {
	t.Helper()
	var k kept
	var e api.Errno
	if k.out, e = run.Run(g, prefixes...); e != api.OK {
		t.Fatalf("Run: %d", e)
	}
	for n := range g.Ops {
		l, e := run.Ports(g, n, prefixes...)
		if e != api.OK {
			t.Fatalf("Ports: %d", e)
		}
		k.ports = append(k.ports, l)
	}
	if k.states, e = run.States(g, prefixes...); e != api.OK {
		t.Fatalf("States: %d", e)
	}
	return k
}

func copyLists(l [][]api.Record) [][]api.Record {
	var out [][]api.Record
	for _, x := range l {
		out = append(out, slices.Clone(x))
	}
	return out
}

func (k kept) copied() kept {
	c := kept{out: slices.Clone(k.out)}
	for _, l := range k.ports {
		c.ports = append(c.ports, copyLists(l))
	}
	for _, s := range k.states {
		c.states = append(c.states, api.TaskState{State: oper.Clone(s.State), Buffers: copyLists(s.Buffers)})
	}
	return c
}

func (k kept) same(l kept) bool {
	return slices.Equal(k.out, l.out) && slices.EqualFunc(k.ports, l.ports, sameLists) && slices.EqualFunc(k.states, l.states, sameTask)
}

// lists are all the lists of records that were answered.
func (k kept) lists() [][]api.Record {
	out := [][]api.Record{k.out}
	for _, l := range k.ports {
		out = append(out, l...)
	}
	for _, s := range k.states {
		out = append(out, s.Buffers...)
	}
	return out
}

// sideBySide is these lists in one piece of memory, one right behind the other.
func sideBySide(lists [][]api.Record) ([]api.Record, [][]api.Record) {
	memory := append(slices.Concat(lists...), recs(77, 77, 78, 78)...)
	out, at := [][]api.Record{}, 0
	for _, l := range lists {
		out = append(out, memory[at:at+len(l)])
		at += len(l)
	}
	return memory, out
}

// TestR3WhatIsHandedIn: it is not written to, also behind its end, and not kept.
func TestR3WhatIsHandedIn(t *testing.T) {
	for name, x := range graphs() {
		g := graph.Clone(x.g)
		memory, prefixes := sideBySide(x.prefixes)
		before := slices.Clone(memory)
		got := askAll(t, g, prefixes)
		want := got.copied()
		if !slices.Equal(memory, before) || !sameLists(prefixes, x.prefixes) || !graph.Same(g, x.g) {
			t.Errorf("%s: what was handed in became %v, %v, %v", name, memory, prefixes, g)
		}
		scribble(memory)
		clear(prefixes)
		for n := range g.Ops {
			clear(g.Ops[n].In)
		}
		clear(g.Ops)
		if !got.same(want) {
			t.Errorf("%s: what was answered hangs on what was handed in: %v; it was %v", name, got, want)
		}
	}
}

// TestR3WhatIsAnswered: it is nobody's else: not the caller's prefixes, not another answer's, and no two lists of it share memory.
func TestR3WhatIsAnswered(t *testing.T) {
	for name, x := range graphs() {
		memory, prefixes := sideBySide(x.prefixes)
		before := slices.Clone(memory)
		want := askAll(t, x.g, prefixes).copied()
		for i := range want.lists() {
			got := askAll(t, x.g, prefixes)
			all, as := got.lists(), want.lists()
			scribble(all[i])
			for j := range all {
				if j != i && !slices.Equal(all[j], as[j]) {
					t.Errorf("%s: who writes to the list %d writes to the list %d", name, i, j)
				}
			}
			if !slices.Equal(memory, before) {
				t.Fatalf("%s: who writes to what was answered writes to what was handed in: %v", name, memory)
			}
		}
		got := askAll(t, x.g, prefixes)
		for n := range got.states {
			scribbleKeys(got.states[n].State.Keys)
			clear(got.states[n].Buffers)
			clear(got.ports[n])
		}
		if again := askAll(t, x.g, prefixes); !again.same(want) {
			t.Errorf("%s: who writes to what was answered changes what is answered then: %v; it was %v", name, again, want)
		}
	}
}

// TestR4EmptyAndNil: prefixes, and the graph's lists.
func TestR4EmptyAndNil(t *testing.T) {
	for name, x := range graphs() {
		for empty := range 1 << x.g.Parts {
			for _, rest := range [][][]api.Record{make([][]api.Record, x.g.Parts), x.prefixes} {
				ofNil, ofEmpty := slices.Clone(rest), slices.Clone(rest)
				for part := range x.g.Parts {
					if empty>>part&1 == 1 {
						ofNil[part], ofEmpty[part] = nil, []api.Record{}
					}
				}
				checkAll(t, x.g, ofNil...)
				checkAll(t, x.g, ofEmpty...)
				if a, b := askAll(t, x.g, ofNil), askAll(t, x.g, ofEmpty); !a.same(b) {
					t.Errorf("%s: of nil %v, of an empty list %v", name, a, b)
				}
			}
		}
		g := graph.Clone(x.g)
		for n := range g.Ops {
			if len(g.Ops[n].In) == 0 {
				g.Ops[n].In = []api.Edge{}
			}
		}
		if a, b := askAll(t, x.g, x.prefixes), askAll(t, g, x.prefixes); !a.same(b) {
			t.Errorf("%s: with inputs that are nil %v, empty %v", name, a, b)
		}
	}
	checkRefused(t, of(1, source(0), sink(0)), 0, api.ErrArg, [][]api.Record{}...)
	checkRefused(t, of(1, []api.Op{}...), 0, api.ErrPart, nil)
}

// TestP84OneByOne: what each longer prefix of one partition comes to begins with what it was.
func TestP84OneByOne(t *testing.T) {
	for name, x := range graphs() {
		for part := range x.prefixes {
			prefixes := slices.Clone(x.prefixes)
			var had kept
			for length := range len(x.prefixes[part]) + 1 {
				prefixes[part] = x.prefixes[part][:length]
				now := askAll(t, x.g, prefixes)
				if !begins(now.out, had.out) {
					t.Errorf("%s: Run of %d records of %d does not begin with what it was", name, length, part)
				}
				for n := range had.ports {
					if !slices.EqualFunc(now.ports[n], had.ports[n], begins) {
						t.Errorf("%s: Ports of %d, of %d records of %d, do not begin with what they were", name, n, length, part)
					}
				}
				had = now
			}
		}
	}
}

func TestP83OutLeftEarlyAndAgain(t *testing.T) {
	for name, x := range graphs() {
		seq := run.Out(x.g, x.prefixes...)
		want, _ := run.Run(x.g, x.prefixes...)
		for stop := 1; stop <= len(want); stop++ {
			var got []api.Record
			for place, r := range seq {
				if place != len(got) {
					t.Errorf("%s: the place %d behind %d records", name, place, len(got))
				}
				got = append(got, r)
				if len(got) == stop {
					break
				}
			}
			if !slices.Equal(got, want[:stop]) {
				t.Errorf("%s: left at %d: %v; want %v", name, stop, got, want[:stop])
			}
		}
		// A loop within a loop.
		for i := range seq {
			told := 0
			for place, r := range seq {
				if place != told || r != want[place] {
					t.Errorf("%s, within %d: %d and %v", name, i, place, r)
				}
				told++
			}
			if told != len(want) {
				t.Errorf("%s, within %d: %d told", name, i, told)
			}
		}
	}
}

func TestP83OutOfNothing(t *testing.T) {
	for range run.Out(two(), nil, spelt("abc")) {
		t.Error("a record, though the union's first input has none")
	}
	for range run.Out(two(), spelt("a")) {
		t.Error("a record, though there is a prefix too few")
	}
	for want, graphs := range refused() {
		for _, g := range graphs {
			for range run.Out(g, make([][]api.Record, max(0, min(g.Parts, 9)))...) {
				t.Error("a record, though graph.Check tells", want)
			}
		}
	}
}

func TestR3OutTellsWhatWasThere(t *testing.T) {
	for name, x := range graphs() {
		g := graph.Clone(x.g)
		memory, prefixes := sideBySide(x.prefixes)
		want, _ := run.Run(g, prefixes...)
		seq := run.Out(g, prefixes...)
		scribble(memory)
		clear(prefixes)
		for n := range g.Ops {
			clear(g.Ops[n].In)
		}
		clear(g.Ops)
		for range 2 {
			var got []api.Record
			for _, r := range seq {
				got = append(got, r)
			}
			if !slices.Equal(got, want) {
				t.Errorf("%s: Out tells %v; want %v", name, got, want)
			}
		}
	}
	// A graph that was refused when it was asked for, and was mended behind that, tells nothing; nor is one that was spoilt refused.
	g := two()
	g.Ops[3].In[0].From = 3
	seq := run.Out(g, spelt("ab"), spelt("xy"))
	g.Ops[3].In[0].From = 2
	for range seq {
		t.Error("a record of a graph that was refused")
	}
}

// TestBoundLongPrefixes: many records, through as many operators as there may be.
func TestBoundLongPrefixes(t *testing.T) {
	var prefixes [][]api.Record
	for part := range api.MaxParts {
		prefixes = append(prefixes, numbered(part, many/4))
	}
	g := greatest()
	l, e := run.Run(g, prefixes...)
	if e != api.OK || len(l) != many || l[many-1] != (api.Record{Key: 3, Val: many/4 + 17}) {
		t.Errorf("Run: %d records, %d", len(l), e)
	}
	g.Ops[5] = api.Op{Kind: api.OpKey, Fn: api.FnVal, Arg: most, In: in(4)}
	g.Ops[6] = api.Op{Kind: api.OpFold, Fn: api.FnCount, In: in(5)}
	g.Ops[22] = api.Op{Kind: api.OpWindow, Fn: api.FnLast, Arg: 5, In: in(21)}
	s, e := run.States(g, prefixes...)
	if e != api.OK || len(s[6].State.Keys) != many/4 || len(s[22].State.Keys) != many/4 {
		t.Errorf("States: %d", e)
	}
	// A union whose first input has none keeps all the others' records.
	prefixes[0] = nil
	s, e = run.States(g, prefixes...)
	if e != api.OK || len(s[4].Buffers) != 4 || len(s[4].Buffers[3]) != many/4 || len(s[6].State.Keys) != 0 {
		t.Errorf("States: %d", e)
	}
}
