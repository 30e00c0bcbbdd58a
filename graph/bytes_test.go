package graph_test

import (
	"bytes"
	"slices"
	"testing"

	"pontoon/api"
	"pontoon/graph"
)

func TestP54Bytes(t *testing.T) {
	b, e := graph.Bytes(of(1, source(0), sink(0)))
	// Parts, operators; of the source Kind, Part, Fn, Arg, inputs; of the sink likewise, and From, Port: each doubled.
	want := []byte{2, 4, 2, 0, 0, 0, 0, 18, 0, 0, 0, 2, 0, 0}
	if !bytes.Equal(b, want) || e != api.OK {
		t.Errorf("%v, %d; want %v", b, e, want)
	}
	b, e = graph.Bytes(wide())
	if !bytes.Equal(b, bytesOf(wide())) || e != api.OK {
		t.Errorf("%v, %d; want %v", b, e, bytesOf(wide()))
	}
}

// refused is graphs that Check refuses, by what it tells.
func refused() map[api.Errno]api.Graph {
	return map[api.Errno]api.Graph{
		api.ErrArg:   of(0, source(0), sink(0)),
		api.ErrLong:  long(25),
		api.ErrKind:  of(1, source(0), api.Op{Kind: 10, In: in(0)}),
		api.ErrField: of(1, source(1), sink(0)),
		api.ErrEdge:  of(1, source(0), neg(1), sink(1)),
		api.ErrTaken: of(1, source(0), union(in(0, 0)...), sink(1)),
		api.ErrLoose: of(1, source(0)),
		api.ErrPart:  of(1),
		api.ErrSink:  of(2, source(0), source(1), sink(0), sink(1)),
	}
}

func TestP54RefusedGraphs(t *testing.T) {
	for want, g := range refused() {
		if b, e := graph.Bytes(g); b != nil || e != want {
			t.Errorf("Bytes of %v = %v, %d; want %d", g, b, e, want)
		}
		if x, e := graph.Parse(bytesOf(g)); x.Parts != 0 || x.Ops != nil || e != want {
			t.Errorf("Parse of %v = %v, %d; want %d", g, x, e, want)
		}
	}
}

func wantParse(t *testing.T, b []byte, want api.Errno) {
	t.Helper()
	if g, e := graph.Parse(b); g.Parts != 0 || g.Ops != nil || e != want {
		t.Errorf("Parse of %v = %v, %d; want %d", b[:min(len(b), 50)], g, e, want)
	}
}

func TestP54ParseOfBytesThatEndEarly(t *testing.T) {
	for _, g := range []api.Graph{wide(), line(), long(24), of(0, source(0), sink(0))} {
		b := bytesOf(g)
		for size := range b {
			wantParse(t, b[:size], api.ErrShort)
		}
	}
}

func TestP54ParseOfBytesBehindTheEnd(t *testing.T) {
	for _, more := range [][]byte{{0}, {128}, {255, 255}, bytesOf(line())} {
		wantParse(t, append(bytesOf(wide()), more...), api.ErrExtra)
		// The unpacker's error comes ahead of Check's.
		for _, g := range refused() {
			wantParse(t, append(bytesOf(g), more...), api.ErrExtra)
		}
	}
}

func TestP54ParseOfNoForms(t *testing.T) {
	b := bytesOf(wide())
	for at := range b {
		// 128 is no form's beginning; within a number it is a digit that goes on.
		spoilt := slices.Concat(b[:at], []byte{128})
		if at > 0 && b[at-1] >= 128 {
			wantParse(t, spoilt, api.ErrShort)
			continue
		}
		wantParse(t, spoilt, api.ErrShape)
	}
}

func TestP54ParseHowManyOperators(t *testing.T) {
	empty := formOf(0, 0, 0, 0, 0)
	for _, x := range []struct {
		said int64
		are  int
		e    api.Errno
	}{
		{0, 0, api.ErrPart},
		{0, 1, api.ErrExtra},
		{1, 1, api.ErrKind},
		{1, 0, api.ErrShort},
		{24, 24, api.ErrKind},
		{25, 25, api.ErrLong},
		{1 << 10, 1 << 10, api.ErrLong},
		{1 << 10, 1<<10 - 1, api.ErrShort},
		{1 << 10, 1<<10 + 1, api.ErrExtra},
		{1<<10 + 1, 1<<10 + 1, api.ErrShape},
		{1<<10 + 1, 0, api.ErrShape},
		{-1, 0, api.ErrShape},
		{most, 1, api.ErrShape},
		{least, 1, api.ErrShape},
		{1 << 32, 0, api.ErrShape},
	} {
		b := append(formOf(1, x.said), bytes.Repeat(empty, x.are)...)
		wantParse(t, b, x.e)
	}
}

func TestP54ParseHowManyInputs(t *testing.T) {
	input := formOf(0, 0)
	for _, x := range []struct {
		said int64
		are  int
		e    api.Errno
	}{
		{0, 0, api.ErrEdge},
		{0, 1, api.ErrExtra},
		{2, 2, api.ErrTaken},
		{2, 1, api.ErrShort},
		{4, 4, api.ErrTaken},
		{5, 5, api.ErrEdge},
		{1 << 10, 1 << 10, api.ErrEdge},
		{1 << 10, 1<<10 - 1, api.ErrShort},
		{1 << 10, 1<<10 + 1, api.ErrExtra},
		{1<<10 + 1, 1<<10 + 1, api.ErrShape},
		{-1, 0, api.ErrShape},
		{most, 1, api.ErrShape},
		{least, 1, api.ErrShape},
	} {
		b := slices.Concat(formOf(1, 2, api.OpSource, 0, 0, 0, 0, api.OpUnion, 0, 0, 0, x.said), bytes.Repeat(input, x.are))
		wantParse(t, b, x.e)
	}
}

// TestP54ParseOfAnyNumbers: no other number has bounds of the unpacker's: what is wrong with it is for Check to tell.
func TestP54ParseOfAnyNumbers(t *testing.T) {
	for _, n := range []int64{least, -1, 25, 1<<10 + 1, 1 << 32, most} {
		for i, want := range []api.Errno{api.ErrArg, api.ErrKind, api.ErrField, api.ErrField, api.ErrEdge, api.ErrEdge} {
			l := []int64{1, 3, 1, 0, 0, 0, 0, 2, 0, 3, 0, 1, 0, 0, 9, 0, 0, 0, 1, 1, 0}
			l[[]int{0, 7, 8, 9, 12, 13}[i]] = n
			wantParse(t, formOf(l...), want)
		}
		g, e := graph.Parse(formOf(1, 3, 1, 0, 0, 0, 0, 2, 0, 1, n, 1, 0, 0, 9, 0, 0, 0, 1, 1, 0))
		if e != api.OK || g.Ops[1].Arg != n {
			t.Errorf("Arg %d: %v, %d", n, g, e)
		}
	}
}

func TestP57ThereAndBack(t *testing.T) {
	for _, g := range []api.Graph{wide(), line(), long(2), long(24), of(1, source(0), sink(0))} {
		b, e := graph.Bytes(g)
		x, f := graph.Parse(b)
		if e != api.OK || f != api.OK || !graph.Same(x, g) || !graph.Same(g, x) {
			t.Errorf("%v came back as %v: %d, %d", g, x, e, f)
		}
	}
}

// TestBoundParse: a number that tells of more than there is costs no memory; operators and inputs without end are not waited for.
func TestBoundParse(t *testing.T) {
	for _, short := range [][]byte{formOf(1, 1<<10), formOf(1, 1, 0, 0, 0, 0, 1<<10)} {
		if n := testing.AllocsPerRun(100, func() { graph.Parse(short) }); n > 6 {
			t.Errorf("%v allocations for what is not there", n)
		}
	}
	full := formOf(1, 1<<10)
	for range 1 << 10 {
		full = append(full, formOf(0, 0, 0, 0, 1<<10)...)
		full = append(full, make([]byte, 2<<10)...)
	}
	wantParse(t, full, api.ErrLong)
	wantParse(t, full[:len(full)-1], api.ErrShort)
	wantParse(t, append(full, 0), api.ErrExtra)
}
