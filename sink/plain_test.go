package sink_test

import (
	"fmt"
	"strconv"
	"testing"

	"pontoon/api"
	"pontoon/sink"
)

func wantRefused(t *testing.T, parts int, p api.Sink) {
	t.Helper()
	if s, e := sink.From(parts, p); s != nil || e != api.ErrArg {
		t.Errorf("From(%d, %s) = %v, %d", parts, short(p), s, e)
	}
}

// TestP154FromParts: New's error, of whatever Plain.
func TestP154FromParts(t *testing.T) {
	for _, parts := range []int{least, -1, 0, 5, 6, 1 << 32, most} {
		wantRefused(t, parts, api.Sink{})
		wantRefused(t, parts, used())
	}
	wantRefused(t, 0, api.Sink{Vector: []int64{}})
	wantRefused(t, 5, api.Sink{Vector: make([]int64, 5)})
}

// TestP154FromOtherParts: Vector, and that of each Pre, has as many numbers as parts.
func TestP154FromOtherParts(t *testing.T) {
	for parts := 1; parts <= 4; parts++ {
		for count := range 7 {
			p := api.Sink{Vector: make([]int64, count)}
			q := with(api.Sink{Fence: 1, Vector: make([]int64, parts)}, txn(1, 1, 0, 1, make([]int64, count)...))
			if count != parts {
				wantRefused(t, parts, p)
				wantRefused(t, parts, q)
				continue
			}
			wantStand(t, fromPlain(t, p), p)
			wantStand(t, fromPlain(t, q), q)
		}
	}
	wantRefused(t, 1, used())
	wantRefused(t, 3, used())
}

// faults make used, each alone, what no sink tells of itself.
func faults() map[string]func(p *api.Sink) {
	out := map[string]func(p *api.Sink){
		"one more than MaxOut":              func(p *api.Sink) { p.Out = places(0, maxIn+1) },
		"very many Out":                     func(p *api.Sink) { p.Out = places(0, 3*maxIn) },
		"no Vector":                         func(p *api.Sink) { p.Vector = nil },
		"a number too few":                  func(p *api.Sink) { p.Vector = p.Vector[:1] },
		"a number too many":                 func(p *api.Sink) { p.Vector = append(p.Vector, 0) },
		"Done falls":                        func(p *api.Sink) { p.Done = []int64{8, 3} },
		"Done falls at its end":             func(p *api.Sink) { p.Done = []int64{1, 3, 8, 7} },
		"Done has a number twice":           func(p *api.Sink) { p.Done = []int64{3, 3} },
		"the last of Done twice":            func(p *api.Sink) { p.Done = []int64{3, 8, 8} },
		"one more than MaxOpen":             func(p *api.Sink) { *p = with(full(), txn(5, 30, maxIn-4, maxIn-1, 10, 20)) },
		"very many Pre":                     func(p *api.Sink) { p.Pre = make([]api.Txn, 5000) },
		"a Pre of a lesser epoch":           func(p *api.Sink) { p.Pre[0].Epoch = 4 },
		"a Pre of a greater epoch":          func(p *api.Sink) { p.Pre[1].Epoch = 6 },
		"Pre of a lesser epoch":             func(p *api.Sink) { p.Pre[0].Epoch, p.Pre[1].Epoch = 4, 4 },
		"a Pre that is Done":                func(p *api.Sink) { p.Pre[0].Id = 3 },
		"the last Pre is Done":              func(p *api.Sink) { p.Pre[1].Id = 8 },
		"a Done that is Pre":                func(p *api.Sink) { p.Done = []int64{3, 8, 9} },
		"Ids of Pre fall":                   func(p *api.Sink) { p.Pre[0], p.Pre[1] = p.Pre[1], p.Pre[0] },
		"an Id of Pre twice":                func(p *api.Sink) { p.Pre[1].Id = 4 },
		"the same Pre twice":                func(p *api.Sink) { p.Pre[1] = p.Pre[0] },
		"a Fence of 0":                      func(p *api.Sink) { p.Fence = 0 },
		"a Fence of 0, and no Pre":          func(p *api.Sink) { p.Fence, p.Pre = 0, nil },
		"a Fence of 0, and Pre of 0":        func(p *api.Sink) { p.Fence, p.Pre[0].Epoch, p.Pre[1].Epoch = 0, 0, 0 },
		"a Fence of 0, and Out alone":       func(p *api.Sink) { *p = api.Sink{Out: places(0, 1), Vector: []int64{0, 0}} },
		"a Fence of 0, and a first number":  func(p *api.Sink) { *p = api.Sink{Vector: []int64{1, 0}} },
		"a Fence of 0, and a second number": func(p *api.Sink) { *p = api.Sink{Vector: []int64{0, end}} },
		"a Fence of 0, and Done alone":      func(p *api.Sink) { *p = api.Sink{Vector: []int64{0, 0}, Done: []int64{1}} },
		"a Fence of 0, and Pre alone": func(p *api.Sink) {
			*p = api.Sink{Vector: []int64{0, 0}, Pre: []api.Txn{txn(1, 1, 0, 1, 0, 0)}}
		},
		"a Fence of 0, and Pre alone, of 0": func(p *api.Sink) {
			*p = api.Sink{Vector: []int64{0, 0}, Pre: []api.Txn{txn(0, 1, 0, 1, 0, 0)}}
		},
		"nothing": func(p *api.Sink) { *p = api.Sink{} },
	}
	for _, n := range []int64{least, -1, end + 1, most} {
		name := strconv.FormatInt(n, 10)
		out["a Fence of "+name] = func(p *api.Sink) { p.Fence, p.Pre = n, nil }
		out["the first number is "+name] = func(p *api.Sink) { p.Vector[0] = n }
		out["the second number is "+name] = func(p *api.Sink) { p.Vector[1] = n }
	}
	for _, n := range []int64{least, -1, 0, end + 1, most} {
		out["Done has alone "+strconv.FormatInt(n, 10)] = func(p *api.Sink) { p.Done = []int64{n} }
	}
	for _, n := range []int64{end + 1, most} {
		out["Done ends with "+strconv.FormatInt(n, 10)] = func(p *api.Sink) { p.Done = append(p.Done, n) }
	}
	for _, n := range []int64{least, -1, 0} {
		out["Done begins with "+strconv.FormatInt(n, 10)] = func(p *api.Sink) { p.Done = append([]int64{n}, p.Done...) }
	}
	for name, spoil := range flaws() {
		for i := range 2 {
			out[fmt.Sprint("Pre ", i, " has ", name)] = func(p *api.Sink) { spoil(&p.Pre[i]) }
		}
	}
	return out
}

func TestP154FromFaults(t *testing.T) {
	wantStand(t, fromPlain(t, used()), used())
	for name, spoil := range faults() {
		t.Run(name, func(t *testing.T) {
			wantRefused(t, 2, but(used(), spoil))
		})
	}
}

// TestP154FromJust: what is at the bounds of that.
func TestP154FromJust(t *testing.T) {
	for _, p := range []api.Sink{
		{Vector: []int64{0, 0}},
		{Fence: 1, Vector: []int64{0, 0}},
		{Fence: end, Vector: []int64{0, 0}},
		{Fence: 1, Vector: []int64{1, 0}},
		{Fence: 1, Vector: []int64{0, end}},
		{Fence: 1, Out: places(0, 1), Vector: []int64{0, 0}},
		{Fence: 1, Out: places(0, maxIn), Vector: []int64{end, end}},
		{Fence: 1, Vector: []int64{0, 0}, Done: []int64{1}},
		{Fence: 1, Vector: []int64{0, 0}, Done: []int64{1, 2, end - 1, end}},
		{Fence: 1, Vector: []int64{0, 0}, Pre: []api.Txn{txn(1, 1, 0, 0, 0, 0)}},
		{Fence: 1, Vector: []int64{0, 0}, Done: []int64{2, end - 1}, Pre: []api.Txn{txn(1, 1, 0, 0, 0, 0), txn(1, 3, 0, 1, 0, 0), txn(1, end, 0, 2, 0, end)}},
		{Fence: end, Vector: []int64{7, 7}, Pre: []api.Txn{txn(end, 1, maxIn, 2*maxIn, 0, 0)}},
		{Fence: end, Out: places(0, 8), Vector: []int64{7, 7}, Pre: []api.Txn{txn(end, 1, maxIn, maxIn, 0, end)}},
		full(),
	} {
		wantStand(t, fromPlain(t, p), p)
	}
	// What is pre-committed need not suit (any more).
	p := used()
	for _, x := range []api.Txn{txn(5, 20, 7, 9, 10, 20), txn(5, 21, 6, 8, 9, 20), txn(5, 22, 3, 5, 10, 20), spoilt(txn(5, 23, 3, 7, 10, 20), 2), txn(5, 24, 1, maxIn+1, 10, 20)} {
		p = with(p, x)
		wantStand(t, fromPlain(t, p), p)
	}
}

// TestR4EmptyAndNil: lists that are empty are like such that are nil, wherever they are handed in.
func TestR4EmptyAndNil(t *testing.T) {
	for _, p := range []api.Sink{
		{Vector: []int64{0}, Out: []api.Record{}, Done: []int64{}, Pre: []api.Txn{}},
		{Fence: 3, Vector: []int64{0}, Out: []api.Record{}, Done: []int64{}, Pre: []api.Txn{{Epoch: 3, Id: 1, Records: []api.Record{}, Vector: []int64{0}}}},
		{Fence: 3, Vector: []int64{0}, Pre: []api.Txn{{Epoch: 3, Id: 1, Vector: []int64{0}}}},
	} {
		s := fromPlain(t, p)
		wantStand(t, s, p)
		if p.Fence == 0 {
			continue
		}
		for _, l := range [][]api.Record{nil, {}, places(0, 3)[:0]} {
			if e := s.Pre(api.Txn{Epoch: 3, Id: 1, Records: l, Vector: []int64{0}}); e != api.OK {
				t.Errorf("Pre of %#v answers %d", l, e)
			}
		}
		if e := s.Commit(api.TxnKey{Epoch: 3, Id: 1}); e != api.OK {
			t.Error(e)
		}
		wantStand(t, s, api.Sink{Fence: 3, Vector: []int64{0}, Done: []int64{1}})
	}
	wantRefused(t, 1, api.Sink{Vector: []int64{}})
	wantRefused(t, 1, api.Sink{Fence: 1, Vector: []int64{0}, Pre: []api.Txn{{Epoch: 1, Id: 1, Vector: []int64{}}}})
}
