package snap_test

import (
	"bytes"
	"slices"
	"sort"
	"testing"

	"pontoon/api"
	"pontoon/flow"
	"pontoon/graph"
	"pontoon/snap"
)

// badGraphs are graphs that graph.Check refuses, by its errors.
func badGraphs(t *testing.T) map[api.Errno][]api.Graph {
	long := of(1, source(0))
	for n := range api.MaxOps - 1 {
		long.Ops = append(long.Ops, api.Op{Kind: api.OpMap, Fn: api.FnNeg, In: in(n)})
	}
	long.Ops = append(long.Ops, sink(api.MaxOps-1))
	bad := map[api.Errno][]api.Graph{
		api.ErrArg:   {{}, of(0, source(0), sink(0)), of(-1, source(0), sink(0)), of(api.MaxParts+1, source(0), sink(0))},
		api.ErrLong:  {long},
		api.ErrKind:  {of(1, source(0), api.Op{Kind: 10, In: in(0)}, sink(1)), of(1, api.Op{})},
		api.ErrField: {of(1, source(1), sink(0)), of(1, source(0), api.Op{Kind: api.OpRoute, Arg: 5, In: in(0)}, sink(1))},
		api.ErrEdge:  {of(1, source(0), sink(1)), of(1, source(0), api.Op{Kind: api.OpUnion, In: in(0)}, sink(1))},
		api.ErrTaken: {of(1, source(0), api.Op{Kind: api.OpUnion, In: in(0, 0)}, sink(1))},
		api.ErrLoose: {of(1, source(0)), of(2, source(0), source(1), sink(0))},
		api.ErrPart:  {of(2, source(0), sink(0)), of(1)},
		api.ErrSink:  {of(2, source(0), source(1), sink(0), sink(1))},
	}
	for want, l := range bad {
		for _, g := range l {
			if _, e := graph.Check(g); e != want {
				t.Fatalf("graph.Check(%v) = %d; want %d", g, e, want)
			}
		}
	}
	return bad
}

// badStates are states that are none of wide, each with just one fault.
func badStates() []api.FlowState {
	var l []api.FlowState
	but := func(change func(s *api.FlowState)) {
		s := full()
		change(&s)
		l = append(l, s)
	}
	for _, n := range []int64{-1, api.MaxNum + 1, most, least} {
		but(func(s *api.FlowState) { s.Id = n })
		but(func(s *api.FlowState) { s.Out = n })
		but(func(s *api.FlowState) { s.Vector[0] = n })
		but(func(s *api.FlowState) { s.Vector[1] = n })
	}
	but(func(s *api.FlowState) { s.Vector = nil })
	but(func(s *api.FlowState) { s.Vector = s.Vector[:1] })
	but(func(s *api.FlowState) { s.Vector = append(s.Vector, 0) })
	but(func(s *api.FlowState) { s.Tasks = nil })
	but(func(s *api.FlowState) { s.Tasks = s.Tasks[:9] })
	but(func(s *api.FlowState) { s.Tasks = append(s.Tasks, api.TaskState{}) })
	for n := range full().Tasks {
		for _, turn := range []int{-1, 4, most, least} {
			but(func(s *api.FlowState) { s.Tasks[n].State.Turn = turn })
		}
		but(func(s *api.FlowState) { s.Tasks[n].Buffers = append(s.Tasks[n].Buffers, nil) })
		if n != 5 {
			but(func(s *api.FlowState) { s.Tasks[n].State.Turn = 1 })
		}
		if n != 6 && n != 8 {
			but(func(s *api.FlowState) { s.Tasks[n].State.Keys = []api.KeyState{{Key: 1, Count: 1}} })
		}
	}
	but(func(s *api.FlowState) { s.Tasks[5].Buffers = nil })
	but(func(s *api.FlowState) { s.Tasks[5].Buffers = s.Tasks[5].Buffers[:3] })
	for _, n := range []int64{0, -1, 3, most, least} {
		but(func(s *api.FlowState) { s.Tasks[6].State.Keys[1].Count = n })
	}
	for _, n := range []int64{0, -1, api.MaxNum + 1, most, least} {
		but(func(s *api.FlowState) { s.Tasks[8].State.Keys[0].Count = n })
	}
	for _, n := range []int{6, 8} {
		but(func(s *api.FlowState) { s.Tasks[n].State.Keys[1].Key = s.Tasks[n].State.Keys[0].Key })
		but(func(s *api.FlowState) { slices.Reverse(s.Tasks[n].State.Keys) })
	}
	return l
}

// keysOf is a state of folded with so many keys.
func keysOf(n int) api.FlowState {
	s := nothing(folded())
	for key := range int64(n) {
		s.Tasks[1].State.Keys = append(s.Tasks[1].State.Keys, api.KeyState{Key: key, Count: 1})
	}
	return s
}

// recordsOf is a state of two with so many records in the first buffer.
func recordsOf(n int) api.FlowState {
	s := nothing(two())
	s.Tasks[2].Buffers[0] = make([]api.Record, n)
	return s
}

// keysLong is a state of folded whose form has so many bytes.
func keysLong(t *testing.T, size int) api.FlowState {
	s := keysOf(sort.Search(size, func(n int) bool { return len(stateForm(keysOf(n))) > size }) - 1)
	// What is missing is less than a key has bytes: one number has room for it.
	s.Tasks[1].State.Keys[0].Acc = widened(size - len(stateForm(s)))
	if got := len(stateForm(s)); got != size {
		t.Fatalf("the form has %d bytes; want %d", got, size)
	}
	return s
}

// recordsLong is a state of two whose form has so many bytes.
func recordsLong(t *testing.T, size int) api.FlowState {
	s := recordsOf(sort.Search(size, func(n int) bool { return len(stateForm(recordsOf(n))) > size }) - 1)
	s.Tasks[2].Buffers[0][0].Val = widened(size - len(stateForm(s)))
	if got := len(stateForm(s)); got != size {
		t.Fatalf("the form has %d bytes; want %d", got, size)
	}
	return s
}

// widened is a number whose form has so many bytes more than one.
func widened(more int) int64 {
	if more == 0 {
		return 0
	}
	return 1 << (7*more - 1)
}

func TestExample(t *testing.T) {
	s := nothing(short())
	s.Id, s.Vector, s.Out = 3, []int64{5}, 5
	b := []byte{6, 2, 10, 10, 4, 0, 0, 0, 0, 0, 0}
	wantBytes(t, short(), s, b)
	wantParse(t, short(), b, s)
	// As a flow tells it.
	f, _ := flow.New(short(), 2)
	f.Feed(0, count(5)...)
	f.Barrier(3)
	f.Drain()
	told, _ := f.Snap()
	wantBytes(t, short(), told, b)
}

func TestP121Bytes(t *testing.T) {
	for _, g := range []api.Graph{short(), two(), folded(), wide()} {
		wantBytes(t, g, nothing(g), stateForm(nothing(g)))
	}
	s := nothing(two())
	s.Id, s.Vector, s.Out = 1, []int64{2, 3}, 4
	s.Tasks[2].State.Turn = 1
	s.Tasks[2].Buffers = [][]api.Record{{rec(5, 6), rec(7, -8)}, {rec(-9, 10)}}
	wantBytes(t, two(), s, []byte{2, 4, 4, 6, 8, 8, 0, 0, 0, 0, 0, 0, 2, 0, 4, 4, 10, 12, 14, 15, 2, 17, 20, 0, 0, 0})
	s = nothing(folded())
	s.Tasks[1].State.Keys = []api.KeyState{{Key: -1, Count: 300, Acc: 2}, {Key: 3, Count: 4, Acc: -5}}
	wantBytes(t, folded(), s, []byte{0, 2, 0, 0, 6, 0, 0, 0, 0, 4, 1, 132, 88, 4, 6, 8, 9, 0, 0, 0, 0})
	wantBytes(t, wide(), full(), stateForm(full()))
}

func TestP121BytesOfBadGraphs(t *testing.T) {
	long := keysLong(t, api.MaxSnap+1)
	for want, l := range badGraphs(t) {
		for _, g := range l {
			wantBytesRefused(t, want, g, nothing(api.Graph{Parts: 1, Ops: g.Ops}))
			// The graph's error comes ahead of the state's, and of ErrLong.
			wantBytesRefused(t, want, g, api.FlowState{})
			wantBytesRefused(t, want, g, api.FlowState{Id: -1, Vector: make([]int64, 9)})
			wantBytesRefused(t, want, g, long)
		}
	}
}

func TestP121BytesOfBadStates(t *testing.T) {
	for _, s := range badStates() {
		wantBytesRefused(t, api.ErrState, wide(), s)
		if _, e := flow.From(wide(), 1, s); e != api.ErrState {
			t.Errorf("flow.From(%v): %d", s, e)
		}
	}
	for _, s := range []api.FlowState{{}, full(), nothing(two()), nothing(folded())} {
		wantBytesRefused(t, api.ErrState, short(), s)
	}
	// ErrState comes ahead of ErrLong.
	s := keysLong(t, api.MaxSnap+1)
	s.Id = -1
	wantBytesRefused(t, api.ErrState, folded(), s)
	wantBytesRefused(t, api.ErrState, short(), keysLong(t, api.MaxSnap+1))
}

func TestP121BytesHowLong(t *testing.T) {
	for _, size := range []int{api.MaxSnap - 1, api.MaxSnap} {
		s := keysLong(t, size)
		wantBytes(t, folded(), s, stateForm(s))
		s = recordsLong(t, size)
		wantBytes(t, two(), s, stateForm(s))
	}
	for _, size := range []int{api.MaxSnap + 1, api.MaxSnap + 2, 2 * api.MaxSnap} {
		wantBytesRefused(t, api.ErrLong, folded(), keysLong(t, size))
		wantBytesRefused(t, api.ErrLong, two(), recordsLong(t, size))
	}
	wantBytesRefused(t, api.ErrLong, two(), recordsOf(api.MaxSnap))
	wantBytesRefused(t, api.ErrLong, two(), recordsOf(api.MaxSnap+1))
}

func TestP121ParseHowLong(t *testing.T) {
	for _, size := range []int{api.MaxSnap - 1, api.MaxSnap} {
		s := keysLong(t, size)
		wantParse(t, folded(), stateForm(s), s)
		s = recordsLong(t, size)
		wantParse(t, two(), stateForm(s), s)
	}
	for _, size := range []int{api.MaxSnap + 1, api.MaxSnap + 2, 2 * api.MaxSnap} {
		wantParseRefused(t, api.ErrLong, folded(), stateForm(keysLong(t, size)))
		wantParseRefused(t, api.ErrLong, two(), stateForm(recordsLong(t, size)))
	}
	// As many bytes as may be, which are no form.
	for c, want := range map[byte]api.Errno{0: api.ErrExtra, 128: api.ErrShape, 255: api.ErrShape, 2: api.ErrExtra} {
		b := bytes.Repeat([]byte{c}, api.MaxSnap+1)
		wantParseRefused(t, want, short(), b[1:])
		// ErrLong comes ahead of all others.
		wantParseRefused(t, api.ErrLong, short(), b)
		wantParseRefused(t, api.ErrLong, api.Graph{}, b)
	}
	wantParseRefused(t, api.ErrLong, api.Graph{}, stateForm(keysLong(t, api.MaxSnap+1)))
}

func TestP121ParseOfBytesThatEndEarly(t *testing.T) {
	wantParseRefused(t, api.ErrShort, short(), nil)
	wantParseRefused(t, api.ErrShort, short(), []byte{})
	for _, x := range []struct {
		g api.Graph
		s api.FlowState
	}{{wide(), full()}, {two(), nothing(two())}, {short(), nothing(short())}, {api.Graph{}, full()}} {
		b := stateForm(x.s)
		for size := range b {
			wantParseRefused(t, api.ErrShort, x.g, b[:size])
		}
	}
}

func TestP121ParseOfBytesBehindTheEnd(t *testing.T) {
	for _, more := range [][]byte{{0}, {1}, {127}, {128}, {255}, {255, 255}, stateForm(full())} {
		wantParseRefused(t, api.ErrExtra, wide(), append(stateForm(full()), more...))
		wantParseRefused(t, api.ErrExtra, short(), append(stateForm(nothing(short())), more...))
		// The unpacker's error comes ahead of flow.From's.
		wantParseRefused(t, api.ErrExtra, api.Graph{}, append(stateForm(full()), more...))
		for _, s := range badStates() {
			wantParseRefused(t, api.ErrExtra, wide(), append(stateForm(s), more...))
		}
	}
}

// TestP121ParseOfNoForms: each number in its turn stands there with a digit 0 ahead of it, or with one digit too many.
func TestP121ParseOfNoForms(t *testing.T) {
	forms := formsOf(full())
	for _, g := range []api.Graph{wide(), short(), {}} {
		for at, form := range forms {
			for _, none := range [][]byte{
				append([]byte{128}, form...),
				{128},
				{130, 128, 128, 128, 128, 128, 128, 128, 128, 0}, // 2^64
				{129, 255, 255, 255, 255, 255, 255, 255, 255, 255, 0},
			} {
				ahead, behind := bytes.Join(forms[:at], nil), bytes.Join(forms[at+1:], nil)
				wantParseRefused(t, api.ErrShape, g, slices.Concat(ahead, none, behind))
				wantParseRefused(t, api.ErrShape, g, slices.Concat(ahead, none))
			}
		}
	}
}

// parted is a form, parted at the number that tells how long a list is: what stands ahead of it, what behind it, and how many there are (-1: it is no form).
type parted struct {
	graph         api.Graph
	ahead, behind []int64
	are           int64
}

func partedForms() []parted {
	all := numbersOf(full())
	at := func(place int, want int64) parted {
		if all[place] != want {
			panic("another number stands there")
		}
		return parted{wide(), all[:place], all[place+1:], want}
	}
	s := nothing(short())
	keys, buffers := numbersOf(s)[:6], numbersOf(s)[:7]
	return []parted{
		at(1, 2),                    // Vector
		at(5, 10),                   // Tasks
		at(7, 0),                    // Keys of the first one
		at(8, 0),                    // Buffers of the first one
		at(22, 0),                   // Keys of the union
		at(23, 4),                   // Buffers of the union
		at(24, 2),                   // the first buffer
		at(29, 0),                   // the second buffer
		at(30, 3),                   // the third buffer
		at(37, 1),                   // the fourth buffer
		at(41, 2),                   // Keys of the window
		at(48, 0),                   // Buffers of the window
		at(53, 3),                   // Keys of the fold
		{short(), keys, nil, -1},    // Keys, with nothing behind
		{short(), buffers, nil, -1}, // Buffers, with nothing behind
	}
}

func TestP121ParseHowMany(t *testing.T) {
	for _, x := range partedForms() {
		form := func(n int64, behind ...int64) []byte {
			return append(formOf(slices.Concat(x.ahead, []int64{n})...), formOf(behind...)...)
		}
		if x.are >= 0 {
			wantParse(t, x.graph, form(x.are, x.behind...), full())
		}
		// No such number of a list may be: with what stands behind it, and without.
		for _, n := range []int64{-1, api.MaxSnap + 1, 1 << 32, 1<<32 + x.are, 1 << 53, most, least, -api.MaxSnap} {
			wantParseRefused(t, api.ErrShape, x.graph, form(n, x.behind...))
			wantParseRefused(t, api.ErrShape, x.graph, form(n))
			wantParseRefused(t, api.ErrShape, api.Graph{}, form(n))
		}
		// More than the bytes hold.
		for _, n := range []int64{api.MaxSnap, api.MaxSnap - 1, 1000, 1} {
			wantParseRefused(t, api.ErrShort, x.graph, form(n))
			wantParseRefused(t, api.ErrShort, api.Graph{}, form(n))
		}
		// Others than there are: what stands behind is read as something else.
		for _, n := range []int64{0, 1, 2, 3, 4, 5, 9, 10, 11, 1000, api.MaxSnap - 1, api.MaxSnap} {
			b := form(n, x.behind...)
			if s, want := parse(x.graph, b); want != api.OK {
				wantParseRefused(t, want, x.graph, b)
			} else {
				wantParse(t, x.graph, b, s)
			}
		}
	}
}

// TestP121ParseOfManyNumbers: lists far longer than a state may have them are read, and flow.From refuses them.
func TestP121ParseOfManyNumbers(t *testing.T) {
	many := api.MaxSnap - 20
	zeros := make([]byte, many)
	for _, x := range []struct {
		ahead, behind []int64
		each          int // bytes of one
	}{
		{[]int64{0}, []int64{0, 0}, 1},                      // Vector
		{[]int64{0, 1, 0, 0}, nil, 3},                       // Tasks
		{[]int64{0, 1, 0, 0, 1, 0}, []int64{0}, 3},          // Keys
		{[]int64{0, 1, 0, 0, 1, 0, 0}, nil, 1},              // Buffers
		{[]int64{0, 1, 0, 0, 1, 0, 0, 2}, []int64{0}, 2},    // records
		{[]int64{0, 1, 0, 0, 2, 0, 0, 0, 0}, []int64{0}, 3}, // Keys of another one
	} {
		n := int64(many / x.each)
		body := zeros[:n*int64(x.each)]
		b := slices.Concat(formOf(x.ahead...), formOf(n), body, formOf(x.behind...))
		wantParseRefused(t, api.ErrState, short(), b)
		wantParseRefused(t, api.ErrArg, api.Graph{}, b)
		wantParseRefused(t, api.ErrExtra, short(), append(b, 0))
		wantParseRefused(t, api.ErrShort, short(), b[:len(b)-1])
	}
}

// TestP121ParseOfAnyNumbers: no number but how many there are has bounds of the unpacker's.
func TestP121ParseOfAnyNumbers(t *testing.T) {
	all := numbersOf(full())
	var counts []int
	for _, x := range partedForms() {
		if x.are >= 0 {
			counts = append(counts, len(x.ahead))
		}
	}
	// Of the operators that keep nothing, too.
	for _, n := range []int{10, 11, 13, 14, 16, 17, 19, 20, 50, 51, 63, 65, 66} {
		counts = append(counts, n)
	}
	refused, taken := 0, 0
	for place := range all {
		if slices.Contains(counts, place) {
			continue
		}
		for _, n := range []int64{0, -1, 1, api.MaxSnap, api.MaxSnap + 1, 1 << 32, api.MaxNum, api.MaxNum + 1, most, least} {
			l := slices.Clone(all)
			l[place] = n
			s, want := parse(wide(), formOf(l...))
			switch want {
			case api.OK:
				taken++
				wantParse(t, wide(), formOf(l...), s)
			case api.ErrState:
				refused++
				wantParseRefused(t, api.ErrState, wide(), formOf(l...))
			default:
				t.Errorf("%d at the place %d: the model says %d", n, place, want)
			}
		}
	}
	if refused < 100 || taken < 100 {
		t.Errorf("%d refused, %d taken: too few", refused, taken)
	}
}

func TestP121ParseOfBadGraphs(t *testing.T) {
	for want, l := range badGraphs(t) {
		for _, g := range l {
			wantParseRefused(t, want, g, stateForm(full()))
			wantParseRefused(t, want, g, stateForm(nothing(api.Graph{Parts: 1, Ops: g.Ops})))
			wantParseRefused(t, want, g, stateForm(api.FlowState{Id: -1}))
			// The unpacker's error comes ahead of the graph's.
			wantParseRefused(t, api.ErrShort, g, nil)
			wantParseRefused(t, api.ErrShape, g, []byte{128})
			wantParseRefused(t, api.ErrExtra, g, append(stateForm(full()), 0))
		}
	}
}

func TestP121ParseOfBadStates(t *testing.T) {
	for _, s := range badStates() {
		wantParseRefused(t, api.ErrState, wide(), stateForm(s))
	}
	for _, s := range []api.FlowState{{}, full(), nothing(two()), nothing(folded())} {
		wantParseRefused(t, api.ErrState, short(), stateForm(s))
	}
	// A state of another graph may be one of this graph.
	s := nothing(folded())
	s.Id, s.Vector[0] = 5, 7
	g := of(1, source(0), api.Op{Kind: api.OpMap, Fn: api.FnNeg, In: in(0)}, sink(1))
	wantParse(t, g, stateForm(s), s)
}

// TestR6Again: the same calls answer the same.
func TestR6Again(t *testing.T) {
	for range 3 {
		wantBytes(t, wide(), full(), stateForm(full()))
		wantParse(t, wide(), stateForm(full()), full())
		wantParseRefused(t, api.ErrShort, wide(), stateForm(full())[:30])
		if b, e := snap.Bytes(wide(), api.FlowState{}); b != nil || e != api.ErrState {
			t.Errorf("Bytes of nothing = %v, %d", b, e)
		}
	}
}
