package snap_test

import (
	"math"
	"math/big"
	"math/rand"
	"slices"
	"testing"

	"pontoon/api"
	"pontoon/flow"
	"pontoon/graph"
	"pontoon/snap"
)

const (
	most  = math.MaxInt64
	least = math.MinInt64
)

func rec(key, val int64) api.Record {
	return api.Record{Key: key, Val: val}
}

// count is that many records, with values from 0 on.
func count(n int) []api.Record {
	var l []api.Record
	for i := range n {
		l = append(l, rec(int64(i%5), int64(i)))
	}
	return l
}

func in(l ...int) []api.Edge {
	var edges []api.Edge
	for _, n := range l {
		edges = append(edges, api.Edge{From: n})
	}
	return edges
}

func of(parts int, ops ...api.Op) api.Graph {
	return api.Graph{Parts: parts, Ops: ops}
}

func source(part int) api.Op {
	return api.Op{Kind: api.OpSource, Part: part}
}

func sink(from int) api.Op {
	return api.Op{Kind: api.OpSink, In: in(from)}
}

// short is a source and a sink.
func short() api.Graph {
	return of(1, source(0), sink(0))
}

// two is a union of two sources.
func two() api.Graph {
	return of(2, source(0), source(1), api.Op{Kind: api.OpUnion, In: in(0, 1)}, sink(2))
}

// folded is a source, a fold and a sink.
func folded() api.Graph {
	return of(1, source(0), api.Op{Kind: api.OpFold, Fn: api.FnSum, In: in(0)}, sink(1))
}

// wide has operators of all Kinds, two partitions, and a route of three ports; its operator 5 is a union of four, 6 a window of three, 8 a fold.
func wide() api.Graph {
	return of(2,
		source(1),
		source(0),
		api.Op{Kind: api.OpRoute, Arg: 3, In: in(1)},
		api.Op{Kind: api.OpKey, Fn: api.FnMod, Arg: 2, In: []api.Edge{{From: 2, Port: 2}}},
		api.Op{Kind: api.OpFilter, Fn: api.FnLess, Arg: 90, In: []api.Edge{{From: 2, Port: 0}}},
		api.Op{Kind: api.OpUnion, In: []api.Edge{{From: 4}, {From: 0}, {From: 2, Port: 1}, {From: 3}}},
		api.Op{Kind: api.OpWindow, Fn: api.FnSum, Arg: 3, In: in(5)},
		api.Op{Kind: api.OpMap, Fn: api.FnXor, Arg: 1, In: in(6)},
		api.Op{Kind: api.OpFold, Fn: api.FnMin, In: in(7)},
		sink(8),
	)
}

// nothing is the state of a flow that has seen nothing yet.
func nothing(g api.Graph) api.FlowState {
	s := api.FlowState{Vector: make([]int64, max(g.Parts, 0))}
	for _, o := range g.Ops {
		kept := api.TaskState{}
		if o.Kind == api.OpUnion {
			kept.Buffers = make([][]api.Record, len(o.In))
		}
		s.Tasks = append(s.Tasks, kept)
	}
	return s
}

// full is a state of wide with something in each list that may have anything, and numbers of many sizes.
func full() api.FlowState {
	s := nothing(wide())
	s.Id, s.Vector, s.Out = api.MaxNum, []int64{0, 300}, 70_000
	s.Tasks[5].State.Turn = 3
	s.Tasks[5].Buffers = [][]api.Record{{rec(1, -1), rec(most, least)}, nil, {rec(64, -65), rec(0, 0), rec(0, 0)}, {rec(least, most)}}
	s.Tasks[6].State.Keys = []api.KeyState{{Key: least, Count: 1, Acc: 63}, {Key: -64, Count: 2, Acc: most}}
	s.Tasks[8].State.Keys = []api.KeyState{{Key: -1, Count: 1, Acc: least}, {Key: 0, Count: 8192, Acc: 0}, {Key: most, Count: api.MaxNum, Acc: -8193}}
	return s
}

// copyOf is s in memory of its own.
func copyOf(s api.FlowState) api.FlowState {
	c := api.FlowState{Id: s.Id, Vector: slices.Clone(s.Vector), Out: s.Out, Tasks: slices.Clone(s.Tasks)}
	for n, k := range s.Tasks {
		c.Tasks[n] = api.TaskState{State: api.OpState{Keys: slices.Clone(k.State.Keys), Turn: k.State.Turn}, Buffers: slices.Clone(k.Buffers)}
		for i, l := range k.Buffers {
			c.Tasks[n].Buffers[i] = slices.Clone(l)
		}
	}
	return c
}

// numbersOf is what the section 'The form' tells, number by number. It parts any two states that differ.
func numbersOf(s api.FlowState) []int64 {
	l := []int64{s.Id}
	l = append(l, int64(len(s.Vector)))
	l = append(l, s.Vector...)
	l = append(l, s.Out)
	l = append(l, int64(len(s.Tasks)))
	for _, k := range s.Tasks {
		l = append(l, int64(k.State.Turn))
		l = append(l, int64(len(k.State.Keys)))
		for _, x := range k.State.Keys {
			l = append(l, x.Key, x.Count, x.Acc)
		}
		l = append(l, int64(len(k.Buffers)))
		for _, records := range k.Buffers {
			l = append(l, int64(len(records)))
			for _, r := range records {
				l = append(l, r.Key, r.Val)
			}
		}
	}
	return l
}

func alike(a, b api.FlowState) bool {
	return slices.Equal(numbersOf(a), numbersOf(b))
}

// isZero tells whether s is what stands beside an error.
func isZero(s api.FlowState) bool {
	return s.Id == 0 && s.Vector == nil && s.Out == 0 && s.Tasks == nil
}

// numberForm is the form of n as chapter 1 tells it.
func numberForm(n int64) []byte {
	natural := 2 * uint64(n)
	if n < 0 {
		natural = 2*uint64(-(n+1)) + 1
	}
	digits := []byte{byte(natural % 128)}
	for natural /= 128; natural > 0; natural /= 128 {
		digits = append(digits, 128+byte(natural%128))
	}
	slices.Reverse(digits)
	return digits
}

// formOf is the forms of these numbers, one behind the other.
func formOf(l ...int64) []byte {
	var b []byte
	for _, n := range l {
		b = append(b, numberForm(n)...)
	}
	return b
}

// formsOf is the form of each number of s.
func formsOf(s api.FlowState) [][]byte {
	var l [][]byte
	for _, n := range numbersOf(s) {
		l = append(l, numberForm(n))
	}
	return l
}

func stateForm(s api.FlowState) []byte {
	return formOf(numbersOf(s)...)
}

// fault is flow.From's error of g, room enough and s, as chapters 5, 7, 10 and 11 tell it.
func fault(g api.Graph, s api.FlowState) api.Errno {
	if _, e := graph.Check(g); e != api.OK {
		return e
	}
	outside := func(n int64) bool { return n < 0 || n > 1<<53 }
	if outside(s.Id) || outside(s.Out) || slices.ContainsFunc(s.Vector, outside) || len(s.Vector) != g.Parts || len(s.Tasks) != len(g.Ops) {
		return api.ErrState
	}
	for n, o := range g.Ops {
		if !taskFits(o, s.Tasks[n]) {
			return api.ErrState
		}
	}
	return api.OK
}

func taskFits(o api.Op, k api.TaskState) bool {
	inputs, greatest := 0, int64(0) // how many inputs of a union, how great a Count may be
	switch o.Kind {
	case api.OpUnion:
		inputs = len(o.In)
	case api.OpFold:
		greatest = 1 << 53
	case api.OpWindow:
		greatest = o.Arg - 1
	}
	for i, x := range k.State.Keys {
		if x.Count < 1 || x.Count > greatest || i > 0 && x.Key <= k.State.Keys[i-1].Key {
			return false
		}
	}
	return k.State.Turn >= 0 && k.State.Turn <= max(inputs-1, 0) && len(k.Buffers) == inputs
}

// cursor goes through numbers, and keeps its first error.
type cursor struct {
	numbers []int64
	left    bool      // whether there are bytes behind the last one
	end     api.Errno // the error of what reads on behind the last one
	err     api.Errno
}

// cursorOf takes b apart as chapter 1 tells it.
func cursorOf(b []byte) *cursor {
	c := &cursor{end: api.ErrShort}
	above := new(big.Int).Lsh(big.NewInt(1), 64)
	for len(b) > 0 {
		so, size := new(big.Int), 0
		for size < len(b) {
			digit := b[size]
			so.Mul(so, big.NewInt(128)).Add(so, big.NewInt(int64(digit%128)))
			if size == 0 && digit == 128 || so.Cmp(above) >= 0 {
				c.left, c.end = true, api.ErrShape
				return c
			}
			size++
			if digit < 128 {
				break
			}
		}
		if b[size-1] >= 128 {
			c.left = true
			return c
		}
		odd := so.Bit(0) == 1
		n := int64(so.Rsh(so, 1).Uint64())
		if odd {
			n = -n - 1
		}
		c.numbers = append(c.numbers, n)
		b = b[size:]
	}
	return c
}

func (c *cursor) next(from, to int64) int64 {
	switch {
	case c.err != api.OK:
	case len(c.numbers) == 0:
		c.err = c.end
	case c.numbers[0] < from || c.numbers[0] > to:
		c.err = api.ErrShape
	default:
		n := c.numbers[0]
		c.numbers = c.numbers[1:]
		return n
	}
	return 0
}

func (c *cursor) any() int64 {
	return c.next(least, most)
}

// many reads how many there are, and has each of them read.
func (c *cursor) many(one func()) {
	for n := c.next(0, 1<<17); n > 0 && c.err == api.OK; n-- {
		one()
	}
}

func (c *cursor) state() api.FlowState {
	var s api.FlowState
	s.Id = c.any()
	c.many(func() { s.Vector = append(s.Vector, c.any()) })
	s.Out = c.any()
	c.many(func() {
		var k api.TaskState
		k.State.Turn = int(c.any())
		c.many(func() {
			var x api.KeyState
			x.Key = c.any()
			x.Count = c.any()
			x.Acc = c.any()
			k.State.Keys = append(k.State.Keys, x)
		})
		c.many(func() {
			var records []api.Record
			c.many(func() {
				var r api.Record
				r.Key = c.any()
				r.Val = c.any()
				records = append(records, r)
			})
			k.Buffers = append(k.Buffers, records)
		})
		s.Tasks = append(s.Tasks, k)
	})
	return s
}

// parse is what P12.1 tells of Parse.
func parse(g api.Graph, b []byte) (api.FlowState, api.Errno) {
	if len(b) > 1<<17 {
		return api.FlowState{}, api.ErrLong
	}
	c := cursorOf(b)
	s := c.state()
	if c.err == api.OK && (len(c.numbers) > 0 || c.left) {
		c.err = api.ErrExtra
	}
	if c.err == api.OK {
		c.err = fault(g, s)
	}
	if c.err != api.OK {
		return api.FlowState{}, c.err
	}
	return s, api.OK
}

// some are the first bytes of what is too long to be told.
func some(b []byte) []byte {
	return b[:min(len(b), 60)]
}

func wantBytes(t *testing.T, g api.Graph, s api.FlowState, want []byte) {
	t.Helper()
	if b, e := snap.Bytes(g, s); !slices.Equal(b, want) || e != api.OK {
		t.Errorf("Bytes = %v, %d; want %v", some(b), e, some(want))
	}
}

func wantBytesRefused(t *testing.T, want api.Errno, g api.Graph, s api.FlowState) {
	t.Helper()
	if b, e := snap.Bytes(g, s); b != nil || e != want {
		t.Errorf("Bytes(%v, ..) = %v, %d; want %d", g, some(b), e, want)
	}
}

func wantParse(t *testing.T, g api.Graph, b []byte, want api.FlowState) {
	t.Helper()
	if s, e := snap.Parse(g, b); !alike(s, want) || e != api.OK {
		t.Errorf("Parse(%v) = %v, %d; want %v", some(b), some(stateForm(s)), e, some(stateForm(want)))
	}
}

func wantParseRefused(t *testing.T, want api.Errno, g api.Graph, b []byte) {
	t.Helper()
	if s, e := snap.Parse(g, b); !isZero(s) || e != want {
		t.Errorf("Parse(%v, %v) = %v, %d; want %d", g, some(b), some(stateForm(s)), e, want)
	}
}

// pick takes bytes one by one, and zeros behind their end.
type pick []byte

func (p *pick) below(n int) int {
	if len(*p) == 0 {
		return 0
	}
	b := (*p)[0]
	*p = (*p)[1:]
	return int(b) % n
}

func (p *pick) number() int64 {
	near := []int64{0, 1, 2, 63, 64, 5, -1, -2, -64, -65, 1 << 40, most, least}
	return near[p.below(len(near))]
}

// natural is a number from 0 to MaxNum, and seldom one that is not.
func (p *pick) natural() int64 {
	if p.below(60) == 59 {
		return []int64{-1, api.MaxNum + 1, most, least}[p.below(4)]
	}
	near := []int64{0, 1, 2, 63, 64, 300, 1 << 40, api.MaxNum}
	return near[p.below(len(near))]
}

func (p *pick) records(n int) []api.Record {
	var l []api.Record
	for range n {
		l = append(l, rec(p.number(), p.number()))
	}
	return l
}

// op is an operator of that Kind, of which graph.Check takes the fields.
func (p *pick) op(kind int, edges ...api.Edge) api.Op {
	o := api.Op{Kind: kind, In: edges}
	switch kind {
	case api.OpMap, api.OpFilter:
		o.Fn, o.Arg = 1+p.below(4), p.number()
		if o.Fn == api.FnNeg { // FnOdd, too
			o.Arg = 0
		}
	case api.OpKey:
		o.Fn, o.Arg = 1+p.below(4), p.number()
		switch o.Fn {
		case api.FnKeep:
			o.Arg = 0
		case api.FnMod, api.FnVal:
			o.Arg = max(o.Arg, 1)
		}
	case api.OpFold:
		o.Fn = 1 + p.below(5)
	case api.OpWindow:
		o.Fn, o.Arg = 1+p.below(5), int64(1+p.below(4))
	case api.OpRoute:
		o.Arg = int64(2 + p.below(3))
	}
	return o
}

// builder grows a graph that graph.Check takes: ports that lead nowhere yet are taken, until all have come to the sink.
type builder struct {
	*pick
	g    api.Graph
	open []api.Edge
}

func (b *builder) add(o api.Op) {
	for port := range graph.Ports(o) {
		b.open = append(b.open, api.Edge{From: len(b.g.Ops), Port: port})
	}
	b.g.Ops = append(b.g.Ops, o)
}

func (b *builder) take(n int) []api.Edge {
	var edges []api.Edge
	for range n {
		i := b.below(len(b.open))
		edges = append(edges, b.open[i])
		b.open = slices.Delete(b.open, i, i+1)
	}
	return edges
}

func (p *pick) graph() api.Graph {
	b := builder{pick: p, g: api.Graph{Parts: 1 + p.below(api.MaxParts)}}
	first := p.below(b.g.Parts)
	for part := range b.g.Parts {
		b.add(source((first + part) % b.g.Parts))
	}
	// Room is kept for the unions that are still needed, and the sink.
	for steps := p.below(20); steps > 0 && len(b.g.Ops)+len(b.open)/2+5 <= api.MaxOps; steps-- {
		kind := api.OpMap + p.below(7)
		if kind != api.OpUnion {
			b.add(p.op(kind, b.take(1)...))
		} else if len(b.open) >= 2 {
			b.add(p.op(kind, b.take(2+p.below(min(len(b.open), api.MaxPorts)-1))...))
		}
	}
	for len(b.open) > 1 {
		b.add(p.op(api.OpUnion, b.take(min(len(b.open), api.MaxPorts))...))
	}
	b.add(p.op(api.OpSink, b.take(1)...))
	return b.g
}

// state is one of g, and sometimes what is none.
func (p *pick) state(g api.Graph) api.FlowState {
	s := nothing(g)
	s.Id, s.Out = p.natural(), p.natural()
	for part := range s.Vector {
		s.Vector[part] = p.natural()
	}
	for n, o := range g.Ops {
		kept := &s.Tasks[n]
		switch o.Kind {
		case api.OpUnion:
			kept.State.Turn = p.below(len(o.In))
			for i := range kept.Buffers {
				kept.Buffers[i] = p.records(p.below(4))
			}
		case api.OpFold, api.OpWindow:
			if o.Kind == api.OpWindow && o.Arg == 1 {
				break
			}
			for key := int64(-3); p.below(3) > 0; key += 1 + p.number()&7 {
				kept.State.Keys = append(kept.State.Keys, api.KeyState{Key: key, Count: 1, Acc: p.number()})
			}
		}
	}
	switch p.below(30) {
	case 0:
		s.Vector = s.Vector[1:]
	case 1:
		s.Tasks = s.Tasks[1:]
	case 2:
		s.Tasks[p.below(len(s.Tasks))].State.Turn = int(p.number())
	case 3:
		n := p.below(len(s.Tasks))
		s.Tasks[n].Buffers = append(s.Tasks[n].Buffers, nil)
	case 4:
		n := p.below(len(s.Tasks))
		s.Tasks[n].State.Keys = append(s.Tasks[n].State.Keys, api.KeyState{Key: p.number(), Count: p.number()})
	}
	return s
}

// random is that many bytes to pick from.
func random(r *rand.Rand, n int) *pick {
	p := make(pick, n)
	r.Read(p)
	return &p
}

// walk holds Bytes and Parse against the model: of a graph and a state of the bytes' choice, and of that state's form, damaged now and then. It answers the error of each.
func walk(t *testing.T, p *pick) (api.Errno, api.Errno) {
	g := p.graph()
	s := p.state(g)
	want, form := fault(g, s), stateForm(s)
	if _, e := flow.From(g, 1, s); e != want {
		t.Errorf("flow.From(%v, 1, %v): %d; the model says %d", g, s, e, want)
	}
	if want == api.OK {
		wantBytes(t, g, s, form)
	} else {
		wantBytesRefused(t, want, g, s)
	}
	for range p.below(3) {
		at := p.below(len(form))
		switch p.below(4) {
		case 0:
			form = form[:at+1]
		case 1:
			form = slices.Insert(form, at, byte(p.below(256)))
		default:
			form[at] = byte(p.below(256))
		}
	}
	read, e := parse(g, form)
	if e == api.OK {
		wantParse(t, g, form, read)
		wantBytes(t, g, read, form)
	} else {
		wantParseRefused(t, e, g, form)
	}
	return want, e
}

func TestModel(t *testing.T) {
	r := rand.New(rand.NewSource(12))
	bytes, parsed := map[api.Errno]int{}, map[api.Errno]int{}
	for range 20_000 {
		one, other := walk(t, random(r, 50+r.Intn(200)))
		bytes[one]++
		parsed[other]++
		if t.Failed() {
			return
		}
	}
	for _, e := range []api.Errno{api.OK, api.ErrState} {
		if bytes[e] < 100 {
			t.Errorf("Bytes answered %v: too few of %d", bytes, e)
		}
	}
	for _, e := range []api.Errno{api.OK, api.ErrState, api.ErrShort, api.ErrShape, api.ErrExtra} {
		if parsed[e] < 100 {
			t.Errorf("Parse answered %v: too few of %d", parsed, e)
		}
	}
}

func FuzzBytes(f *testing.F) {
	f.Add([]byte("a graph, a state of it, and what is damaged in its form"))
	f.Add([]byte{1, 0, 3, 5, 2, 0, 0, 1, 1, 1, 0, 0, 3, 1, 1, 1, 4, 1, 9, 9, 9, 9, 7, 0, 8, 9, 5})
	f.Fuzz(func(t *testing.T, b []byte) {
		p := pick(b)
		walk(t, &p)
	})
}

func FuzzParse(f *testing.F) {
	f.Add(stateForm(full()), 3)
	f.Add([]byte{6, 2, 10, 10, 4, 0, 0, 0, 0, 0, 0}, 0)
	f.Fuzz(func(t *testing.T, b []byte, which int) {
		g := []api.Graph{short(), two(), folded(), wide(), {}}[uint(which)%5]
		if s, e := parse(g, b); e == api.OK {
			wantParse(t, g, b, s)
			wantBytes(t, g, s, b)
		} else {
			wantParseRefused(t, e, g, b)
		}
	})
}
