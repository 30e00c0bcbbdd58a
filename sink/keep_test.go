package sink_test

import (
	"reflect"
	"runtime"
	"slices"
	"testing"

	"pontoon/api"
	"pontoon/sink"
)

// spoilTxn writes over all that x has in lists.
func spoilTxn(x api.Txn) {
	for i := range x.Records {
		x.Records[i] = api.Record{Key: -77, Val: -78}
	}
	for i := range x.Vector {
		x.Vector[i] = -79
	}
}

// spoilPlain writes over all that p has in lists.
func spoilPlain(p api.Sink) {
	for _, x := range p.Pre {
		spoilTxn(x)
	}
	spoilTxn(api.Txn{Records: p.Out, Vector: p.Vector})
	spoilTxn(api.Txn{Vector: p.Done})
	clear(p.Pre)
}

// roomy is x with room behind its lists, which are written over, too, when it is spoilt as a whole.
func roomy(x api.Txn) api.Txn {
	x.Records = append(x.Records, places(90, 99)...)[:len(x.Records)]
	x.Vector = append(x.Vector, 91, 92, 93)[:len(x.Vector)]
	return x
}

// whole is x with its lists up to the end of the room behind them.
func whole(x api.Txn) api.Txn {
	x.Records, x.Vector = x.Records[:cap(x.Records)], x.Vector[:cap(x.Vector)]
	return x
}

// TestR3WhatIsHandedInToPre: neither written to nor kept.
func TestR3WhatIsHandedInToPre(t *testing.T) {
	for _, x := range []api.Txn{news(), txn(5, 7, 6, 9, 30, 30), txn(6, 7, 6, 9, 30, 30), used().Pre[0], txn(5, 4, 6, 7, 30, 40), txn(5, 3, 0, 0, 0, 0), txn(5, 7, 7, 8, 10, 20), txn(4, 7, 6, 8, 10, 20)} {
		s := fromPlain(t, used())
		m := modelOf(used())
		x := roomy(x)
		had := copiedTxn(whole(x))
		for _, a := range []act{doPre(x), doCommit(x.Epoch, x.Id), doPre(txn(x.Epoch, 30, 4, 12, 40, 40)), doCommit(x.Epoch, 30)} {
			checkAct(t, s, &m, a)
		}
		if got := copiedTxn(whole(x)); !reflect.DeepEqual(got, had) {
			t.Errorf("what was handed in is %s now; it was %s", short(got), short(had))
		}
		spoilTxn(whole(x))
		wantStand(t, s, m.plain())
	}
}

// TestR3KeptOfPre: what was handed in is written over while it is pre-committed, and while it is committed.
func TestR3KeptOfPre(t *testing.T) {
	for _, x := range []api.Txn{news(), txn(5, 7, 6, 9, 30, 30), txn(5, 7, 6, 6, 30, 30)} {
		s := fromPlain(t, used())
		p := with(used(), x)
		handed := roomy(x)
		if e := s.Pre(handed); e != api.OK {
			t.Fatal(e)
		}
		spoilTxn(whole(handed))
		wantStand(t, s, p)
		p = committed(p, 7)
		if e := s.Commit(api.TxnKey{Epoch: 5, Id: 7}); e != api.OK {
			t.Fatal(e)
		}
		wantStand(t, s, p)
		spoilTxn(whole(handed))
		wantStand(t, s, p)
	}
}

// TestR3WhatIsHandedInToFrom: neither written to nor kept, whether it is refused or not.
func TestR3WhatIsHandedInToFrom(t *testing.T) {
	for name, spoil := range faults() {
		p := but(used(), spoil)
		had := copied(p)
		sink.From(2, p)
		if got := copied(p); !reflect.DeepEqual(got, had) {
			t.Errorf("%s: what was handed in is %s now; it was %s", name, short(got), short(had))
		}
	}
	p := used()
	p.Out = append(p.Out, places(90, 99)...)[:6]
	p.Vector = append(p.Vector, 91, 92)[:2]
	p.Done = append(p.Done, 93, 94)[:2]
	s := fromPlain(t, p)
	m := modelOf(used())
	for _, a := range []act{doPre(news()), doCommit(5, 4), doCommit(5, 9), doPre(txn(5, 1, 8, 20, 30, 30)), doCommit(5, 1)} {
		checkAct(t, s, &m, a)
	}
	if !reflect.DeepEqual(copied(p), copied(used())) || !slices.Equal(p.Out[:15][6:], places(90, 99)) || !slices.Equal(p.Vector[:4], []int64{10, 20, 91, 92}) || !slices.Equal(p.Done[:4], []int64{3, 8, 93, 94}) {
		t.Errorf("what was handed in is %s now", short(p))
	}
	s = fromPlain(t, p)
	spoilPlain(p)
	wantStand(t, s, used())
}

func TestR3Above(t *testing.T) {
	a, b := []int64{3, 4, 9}, []int64{3, 5, 9}
	sink.Above(a, b)
	sink.Above(b[:2], a)
	if !slices.Equal(a, []int64{3, 4, 9}) || !slices.Equal(b, []int64{3, 5, 9}) {
		t.Error(a, b)
	}
}

// TestR3WhatIsAnswered: it is nobody else's.
func TestR3WhatIsAnswered(t *testing.T) {
	for _, p := range []api.Sink{used(), full(), {Fence: 1, Vector: []int64{3}}} {
		s := fromPlain(t, p)
		for range 2 {
			spoilPlain(s.Plain())
			spoilTxn(api.Txn{Vector: s.Vector()})
			l, _ := s.Read(0, maxIn)
			spoilTxn(api.Txn{Records: l[:cap(l)]})
			clear(s.Open())
			wantStand(t, s, p)
		}
		// What is told goes its own way when the sink goes on, too.
		plain, vector, open := s.Plain(), s.Vector(), s.Open()
		l, _ := s.Read(0, maxIn)
		for _, x := range p.Pre {
			s.Commit(api.TxnKey{Epoch: x.Epoch, Id: x.Id})
		}
		s.Fence(end)
		s.Pre(txn(end, 1, s.Len(), s.Len()+1, s.Vector()...))
		s.Commit(api.TxnKey{Epoch: end, Id: 1})
		if !reflect.DeepEqual(copied(plain), copied(p)) || !slices.Equal(vector, p.Vector) || len(open) != len(p.Pre) || !slices.Equal(l, p.Out) {
			t.Errorf("what was told is %s, %v, %v, %s now", short(plain), vector, open, short(l))
		}
	}
}

// TestR3ListsOfOneAnswer: none has another one behind its end.
func TestR3ListsOfOneAnswer(t *testing.T) {
	for _, p := range []api.Sink{used(), full()} {
		plain := fromPlain(t, p).Plain()
		for range 3 {
			for _, x := range append(plain.Pre, api.Txn{Records: plain.Out, Vector: plain.Vector}, api.Txn{Vector: plain.Done}) {
				_ = append(x.Records, places(90, 99)...)
				_ = append(x.Vector, 91, 92, 93, 94, 95, 96, 97, 98)
			}
			if !reflect.DeepEqual(copied(plain), copied(p)) {
				t.Errorf("what was told is %s now", short(plain))
			}
		}
	}
}

// TestR3AllTellsWhatWasThere: it was asked for ahead of what is done to the sink.
func TestR3AllTellsWhatWasThere(t *testing.T) {
	for name, acts := range map[string][]act{
		"more is committed":      {doCommit(5, 4)},
		"very much is committed": {doPre(txn(5, 7, 0, maxIn, 10, 20)), doCommit(5, 7)},
		"the register is raised": {doFence(end)},
		"it is refused":          {doPre(txn(5, 7, 7, 9, 10, 20)), doCommit(5, 7), doAbort(5, 3)},
		"more and more":          {doCommit(5, 4), doPre(txn(5, 7, 8, 9, 12, 20)), doCommit(5, 7), doPre(txn(6, 1, 8, 30, 12, 20)), doCommit(6, 1)},
	} {
		s := fromPlain(t, used())
		seq := s.All()
		for _, a := range acts {
			do(s, a)
		}
		for range 2 {
			var got []api.Record
			for _, r := range seq {
				got = append(got, r)
			}
			if !slices.Equal(got, places(0, 6)) {
				t.Errorf("%s: All tells %v", name, got)
			}
		}
		// It is done within the loop, too.
		s = fromPlain(t, used())
		var got []api.Record
		for _, r := range s.All() {
			got = append(got, r)
			for _, a := range acts {
				do(s, a)
			}
		}
		if !slices.Equal(got, places(0, 6)) {
			t.Errorf("%s within the loop: All tells %v", name, got)
		}
	}
	// Of one into which nothing was committed nothing, also when something was since.
	s, _ := sink.New(1)
	seq := s.All()
	s.Pre(txn(1, 1, 0, 3, 0))
	s.Commit(api.TxnKey{Epoch: 1, Id: 1})
	for range seq {
		t.Error("a record of what was empty")
	}
}

// ways are acts one behind the other, of used.
func ways() [][]act {
	return [][]act{
		{doCommit(5, 4)},
		{doCommit(5, 9)},
		{doAbort(5, 4), doAbort(5, 9)},
		{doFence(6)},
		{doPre(news()), doCommit(5, 7)},
		{doPre(spoilt(news(), 3)), doCommit(5, 7)},
		{doPre(spoilt(txn(5, 1, 6, 10, 50, 50), 0)), doCommit(5, 1), doPre(txn(5, 2, 9, 12, 60, 60))},
		{doPre(txn(7, 2, 2, 900, 50, 50)), doCommit(7, 2)},
		// Other records at the places behind that of news, and Ids ahead of those of used.
		{doPre(txn(5, 1, 8, 9, 60, 60)), doCommit(5, 1)},
		{doPre(spoilt(txn(5, 2, 8, 9, 60, 60), 0)), doCommit(5, 2)},
		{doPre(spoilt(txn(5, 40, 8, 10, 60, 60), 1)), doCommit(5, 40)},
	}
}

// TestP154Clone: what is done to one of both is not seen at the other one, whichever goes first.
func TestP154Clone(t *testing.T) {
	for _, early := range append(ways(), nil) {
		for _, one := range ways() {
			for _, other := range ways() {
				s := fromPlain(t, used())
				m := modelOf(used())
				for _, a := range early {
					checkAct(t, s, &m, a)
				}
				c, n := s.Clone(), m.clone()
				wantStand(t, c, m.plain())
				for _, a := range one {
					checkAct(t, s, &m, a)
					wantStand(t, c, n.plain())
				}
				for _, a := range other {
					checkAct(t, c, &n, a)
					wantStand(t, s, m.plain())
				}
				*s = sink.Sink{}
				wantStand(t, c, n.plain())
			}
		}
	}
	fresh, _ := sink.New(3)
	c := fresh.Clone()
	c.Fence(4)
	wantStand(t, fresh, api.Sink{Vector: []int64{0, 0, 0}})
	wantStand(t, c, api.Sink{Fence: 4, Vector: []int64{0, 0, 0}})
}

func TestR5WhatNoCallMade(t *testing.T) {
	for name, s := range map[string]*sink.Sink{"nil": nil, "zero": {}, "new": new(sink.Sink)} {
		t.Run(name, func(t *testing.T) {
			var acts []act
			for _, n := range []int64{least, -1, 0, 1, 5, end, end + 1, most} {
				acts = append(acts, doFence(n), doCommit(n, 1), doCommit(1, n), doAbort(n, 1), doAbort(1, n), doPre(txn(n, 1, 0, 1, 0)), doPre(txn(1, n, 0, 1)))
			}
			for range 2 {
				for _, a := range append(acts, doPre(api.Txn{}), doPre(news()), act{kind: commit}, act{kind: abort}) {
					if e := do(s, a); e != api.ErrMade {
						t.Errorf("%s answers %d", short(a), e)
					}
				}
				for _, from := range []int64{least, -1, 0, 1, most} {
					for _, n := range []int{least, -1, 0, 1, most} {
						if l, e := s.Read(from, n); l != nil || e != api.ErrMade {
							t.Errorf("Read(%d, %d) = %v, %d", from, n, l, e)
						}
					}
				}
				wantNothing(t, s)
			}
		})
	}
}

// wantNothing tells that s has nothing to tell.
func wantNothing(t *testing.T, s *sink.Sink) {
	t.Helper()
	if s.Register() != 0 || s.Len() != 0 || s.Vector() != nil || s.Open() != nil || s.Clone() != nil {
		t.Errorf("Register %d, Len %d, Vector %v, Open %v, Clone %v", s.Register(), s.Len(), s.Vector(), s.Open(), s.Clone())
	}
	if p := s.Plain(); !reflect.DeepEqual(p, api.Sink{}) {
		t.Errorf("Plain %+v", p)
	}
	for _, k := range []api.TxnKey{{}, {Epoch: 0, Id: 1}, {Epoch: 1, Id: 1}, {Epoch: -1, Id: least}} {
		if s.Done(k) {
			t.Errorf("Done of %+v", k)
		}
	}
	for n, r := range s.All() {
		t.Errorf("All tells %d, %v", n, r)
	}
}

// TestBoundManyCommits: very many transactions under one epoch cost little each, also to be told, and to go on from.
func TestBoundManyCommits(t *testing.T) {
	s, _ := sink.New(1)
	const many = 1 << 18
	for id := int64(1); id <= many; id++ {
		x := api.Txn{Epoch: 1, Id: id, Begin: s.Len(), Vector: []int64{id}}
		if e := s.Pre(x); e != api.OK {
			t.Fatal(id, e)
		}
		if e := s.Commit(api.TxnKey{Epoch: 1, Id: id}); e != api.OK {
			t.Fatal(id, e)
		}
	}
	c := fromPlain(t, s.Plain()).Clone()
	if p := c.Plain(); len(p.Done) != many || !c.Done(api.TxnKey{Epoch: 1, Id: many}) || c.Done(api.TxnKey{Epoch: 1, Id: many + 1}) {
		t.Error(len(p.Done))
	}
	// In falling order, too.
	s.Fence(2)
	const some = 1 << 14
	for id := int64(some); id > 0; id-- {
		s.Pre(api.Txn{Epoch: 2, Id: id, Vector: []int64{many}})
		if e := s.Commit(api.TxnKey{Epoch: 2, Id: id}); e != api.OK {
			t.Fatal(id, e)
		}
	}
	if p := s.Plain(); len(p.Done) != some || p.Done[0] != 1 || p.Done[some-1] != some {
		t.Error(len(p.Done))
	}
}

// TestBoundWhatIsAsked: great numbers take no more than what there is.
func TestBoundWhatIsAsked(t *testing.T) {
	s := fromPlain(t, used())
	for _, n := range []int{1 << 40, most} {
		if l, e := s.Read(0, n); e != api.OK || len(l) != 6 || cap(l) > 64 {
			t.Errorf("Read of %d answers %d records with room for %d, %d", n, len(l), cap(l), e)
		}
	}
	long := api.Txn{Epoch: 9, Id: 1, Records: make([]api.Record, 1<<20), Vector: make([]int64, 1<<20)}
	if e := s.Pre(long); e != api.ErrArg {
		t.Error(e)
	}
	wantRefused(t, 2, api.Sink{Fence: 9, Out: long.Records, Vector: long.Vector, Done: long.Vector, Pre: make([]api.Txn, 1<<18)})
	wantStand(t, s, used())
}

// TestBoundWhatIsGone: what was pre-committed, and is so no more, takes no memory.
func TestBoundWhatIsGone(t *testing.T) {
	s, _ := sink.New(1)
	var before, after runtime.MemStats
	runtime.GC()
	runtime.ReadMemStats(&before)
	x := txn(1, 1, 0, maxIn, 0)
	for epoch := int64(1); epoch <= 1000; epoch++ {
		for id := int64(1); id <= 4; id++ {
			x.Epoch, x.Id = epoch, id
			if e := s.Pre(x); e != api.OK {
				t.Fatal(epoch, e)
			}
		}
		s.Abort(api.TxnKey{Epoch: epoch, Id: 1})
	}
	s.Fence(2000)
	runtime.GC()
	runtime.ReadMemStats(&after)
	if after.HeapAlloc > before.HeapAlloc+1<<20 {
		t.Errorf("%d bytes more are held", after.HeapAlloc-before.HeapAlloc)
	}
	wantStand(t, s, api.Sink{Fence: 2000, Vector: []int64{0}})
}
