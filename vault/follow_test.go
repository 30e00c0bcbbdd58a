package vault_test

import (
	"fmt"
	"math/rand"
	"reflect"
	"runtime"
	"testing"

	"pontoon/api"
	"pontoon/sink"
	"pontoon/store"
	"pontoon/vault"
)

// watcher holds a vault against P16.5 to P16.7; it knows what was asked and answered alone, and what a sink makes of that.
type watcher struct {
	sink    *sink.Sink
	refused int // how many calls the store refused
}

// step does an act, and looks at what comes of it; it answers whether the store refused it.
func (w *watcher) step(t *testing.T, v *vault.Vault, a act) bool {
	t.Helper()
	next := w.sink.Clone()
	e, answer := do(v, a), do(next, a)
	now := copied(v.Sink().Plain())
	if e == answer && reflect.DeepEqual(now, copied(next.Plain())) {
		w.sink = next
		return false
	}
	if e != api.ErrRoom && e != api.ErrDown && e != api.ErrNone {
		t.Fatalf("P16.6: %s answers %d, and the sink is %s; a sink answers %d, and is %s", short(a), e, short(now), answer, short(next.Plain()))
	}
	if was := copied(w.sink.Plain()); !reflect.DeepEqual(now, was) {
		t.Fatalf("P16.7: %s is refused by %d; the sink is %s, it was %s", short(a), e, short(now), short(was))
	}
	w.refused++
	return true
}

// lasts opens what a crash left of s, and looks whether that is what it was.
func (w *watcher) lasts(t *testing.T, what string, s *store.Store, keep, torn int) (*store.Store, *vault.Vault) {
	t.Helper()
	c := s.Clone()
	if c.Up() {
		want(t, what, c.Crash(keep, torn), api.OK)
	}
	want(t, what, c.Start(), api.OK)
	v, e := vault.Open(c, len(w.sink.Vector()))
	if e != api.OK {
		t.Fatalf("P16.5: %s: behind Crash(%d, %d) Open answers %d", what, keep, torn, e)
	}
	if got, was := copied(v.Sink().Plain()), copied(w.sink.Plain()); !reflect.DeepEqual(got, was) {
		t.Fatalf("P16.5: %s: behind Crash(%d, %d) the sink is %s; it was %s", what, keep, torn, short(got), short(was))
	}
	return c, v
}

// TestP165P166P167LongWays: calls, crashes and openings, with what others have pending, with room for all and for less.
func TestP165P166P167LongWays(t *testing.T) {
	r := rand.New(rand.NewSource(165))
	refused, anew := 0, 0
	for way := range 250 {
		room := maxRoom
		if way%2 == 1 {
			room = 400 + r.Intn(800)
		}
		s := newStore(t, room, files{"other": {1, 2, 3}})
		parts := 1 + r.Intn(3)
		v := open(t, s, parts)
		w := &watcher{}
		w.sink, _ = sink.New(parts)
		for range 200 {
			notes := v.Notes()
			a := someAct(r, w.sink)
			w.step(t, v, a)
			if v.Notes() < notes {
				anew++
			}
			if r.Intn(3) == 0 {
				s.Write("other", r.Intn(4), make([]byte, r.Intn(4)))
			}
			if r.Intn(4) == 0 {
				w.lasts(t, short(a), s, r.Int(), r.Int())
			}
			switch r.Intn(30) {
			case 0:
				s, v = w.lasts(t, short(a), s, r.Int(), r.Int())
			case 1:
				s.Crash(r.Int(), r.Int())
				w.step(t, v, someAct(r, w.sink))
				s, v = w.lasts(t, "behind a call while it was down", s, 0, 0)
			case 2:
				v = open(t, s, parts)
			}
		}
		refused += w.refused
	}
	if refused < 1000 || anew < 300 {
		t.Errorf("just %d calls were refused, all was kept anew just %d times", refused, anew)
	}
}

// TestP166NothingIsRefused: with room, and a store that stays up, the answers are the sink's, through crashes between them.
func TestP166NothingIsRefused(t *testing.T) {
	r := rand.New(rand.NewSource(166))
	for range 60 {
		s := newStore(t, maxRoom, nil)
		v := open(t, s, 2)
		w := &watcher{}
		w.sink, _ = sink.New(2)
		for range 300 {
			if a := someAct(r, w.sink); w.step(t, v, a) {
				t.Fatalf("P16.6: %s is refused", short(a))
			}
			if r.Intn(20) == 0 {
				s, v = w.lasts(t, "with room", s, r.Int(), r.Int())
			}
		}
	}
}

// moments are stores as they are on the way through a call that notes a, one behind each step that the chapter tells.
func moments(t *testing.T, s *store.Store, number int64, a act, anew bool, then api.Sink) []*store.Store {
	t.Helper()
	s = s.Clone()
	all := fileOf(number, then)
	size, _ := s.Size("vault.log")
	steps := []func() api.Errno{
		func() api.Errno { return s.Write("vault.log", size, noteOf(number, a)) },
		func() api.Errno { return s.Sync("vault.log") },
	}
	if anew {
		steps = append(steps,
			func() api.Errno { return s.Create("vault.tmp") },
			func() api.Errno { return s.Write("vault.tmp", 0, all) },
			func() api.Errno { return s.Sync("vault.tmp") },
			func() api.Errno { return s.Rename("vault.tmp", "vault") },
			func() api.Errno { return s.Cut("vault.log", 0) })
	}
	var out []*store.Store
	for i, step := range steps {
		want(t, fmt.Sprint("step ", i), step(), api.OK)
		out = append(out, s.Clone())
	}
	return out
}

// TestP165AnyMoment: also in the midst of a call a crash leaves what was there ahead of it, or what is there behind it, whatever it tears.
func TestP165AnyMoment(t *testing.T) {
	s := newStore(t, maxRoom, files{"other": {1, 2, 3}})
	v := open(t, s, 1)
	was := &watcher{}
	was.sink, _ = sink.New(1)
	for i := range int64(75) {
		id := i/3 + 1
		a := []act{doPre(txn(1, id, 2*id-2, 2*id, id)), doCommit(1, id), doAbort(1, id+100)}[i%3]
		if i%3 == 2 {
			a = doPre(txn(1, id+500, 2*id, 2*id+1, id))
			if i%6 == 5 {
				a = doAbort(1, id+499)
			}
		}
		want(t, "Write", s.Write("other", 1, []byte{7}), api.OK)
		ahead := s.Clone()
		notes, number := v.Notes(), v.Last()+1
		now := &watcher{sink: was.sink.Clone()}
		if now.step(t, v, a) {
			t.Fatalf("%s is refused", short(a))
		}
		if v.Last() != number {
			continue
		}
		walk := moments(t, ahead, number, a, notes == 31, v.Sink().Plain())
		if got, want := tell(t, s), tell(t, walk[len(walk)-1]); !reflect.DeepEqual(got, want) {
			t.Fatalf("behind all steps the store is %s; want %s", short(got), short(want))
		}
		size := len(noteOf(number, a))
		for torn := range size {
			// What "other" has pending comes first.
			was.lasts(t, "torn note", walk[0], ahead.Pending(), torn)
			was.lasts(t, "torn ahead of it", walk[0], ahead.Pending()-1, torn)
		}
		now.lasts(t, "whole note", walk[0], ahead.Pending(), size)
		now.lasts(t, "kept note", walk[0], ahead.Pending()+1, 0)
		for j, moment := range walk[1:] {
			for torn := range 40 {
				now.lasts(t, fmt.Sprint("moment ", j+1), moment, torn/20*ahead.Pending(), 7*torn)
			}
			c, u := now.lasts(t, "goes on", moment, 0, 0)
			if u.Last() != number {
				t.Fatalf("moment %d: Last is %d; want %d", j+1, u.Last(), number)
			}
			// It goes on from there, and lasts.
			on := &watcher{sink: now.sink.Clone()}
			on.step(t, u, doFence(5))
			on.lasts(t, "went on", c, 1, 1)
		}
		was = now
	}
	if v.Last() < 64 {
		t.Errorf("there were just %d notes", v.Last())
	}
}

// TestP167RefusedIsNothing: each call that a store has no room for, crashes and openings behind it, and the same call with room.
func TestP167RefusedIsNothing(t *testing.T) {
	for _, a := range someActs() {
		e, p := behind(t, used(), a)
		if reflect.DeepEqual(p, copied(used())) {
			continue
		}
		f := files{"vault": fileOf(40, used()), "vault.log": nil, "filler": make([]byte, 100000)}
		s := newStore(t, 100000+len(f["vault"])+5, f)
		v := open(t, s, 2)
		w := &watcher{sink: fromPlain(t, used())}
		for i := range 4 {
			if !w.step(t, v, a) {
				t.Fatalf("%s is not refused", short(a))
			}
			if i%2 == 1 {
				s, v = w.lasts(t, "refused", s, i, i)
			}
		}
		want(t, "Cut", s.Cut("filler", 0), api.OK)
		want(t, short(a), do(v, a), e)
		wantVault(t, short(a), v, p, 41, 1)
		wantLasts(t, short(a), s, p, 41, 1)
	}
}

// TestP168SinksOfVaults: what a vault kept is parsed as it is.
func TestP168SinksOfVaults(t *testing.T) {
	r := rand.New(rand.NewSource(168))
	for range 100 {
		s, _ := sink.New(1 + r.Intn(4))
		for range 60 {
			do(s, someAct(r, s))
			p := s.Plain()
			wantSink(t, vault.SinkBytes(p), p, api.OK)
			for _, x := range p.Pre {
				wantTxn(t, vault.TxnBytes(x), x, api.OK)
			}
		}
	}
}

// spent is how many bytes f takes in all.
func spent(f func()) uint64 {
	var before, after runtime.MemStats
	runtime.ReadMemStats(&before)
	f()
	runtime.ReadMemStats(&after)
	return after.TotalAlloc - before.TotalAlloc
}

// TestBoundBytes: forms of very long lists, and counts of lists that are not there, take no more than their length.
func TestBoundBytes(t *testing.T) {
	x := api.Txn{Records: make([]api.Record, 1<<20), Vector: make([]int64, 1<<20)}
	p := api.Sink{Done: x.Vector, Pre: make([]api.Txn, 1<<18)}
	if n := spent(func() { vault.TxnBytes(x); vault.SinkBytes(p) }); n > 1<<28 {
		t.Errorf("forms take %d bytes", n)
	}
	b := forms(1, 8192)
	for range 8192 {
		b = append(b, forms(0, 0)...)
	}
	b = append(b, forms(0, 0, 8192, 1, 1, 1, 8192)...)
	if n := spent(func() { wantSink(t, b, api.Sink{}, api.ErrShort) }); n > 1<<22 {
		t.Errorf("parsing takes %d bytes", n)
	}
	many := make([]byte, 1<<18)
	if n := spent(func() { vault.ParseSink(many); vault.ParseTxn(many) }); n > 1<<22 {
		t.Errorf("parsing takes %d bytes", n)
	}
}

// TestBoundOpen: a log as long as a store may have, of notes that say little.
func TestBoundOpen(t *testing.T) {
	var b []byte
	n := int64(0)
	for note := noteOf(1, doFence(1)); len(b)+len(note) < maxRoom; note = noteOf(n+1, doFence(n+1)) {
		b = append(b, note...)
		n++
	}
	s := newStore(t, maxRoom, files{"vault.log": b})
	var v *vault.Vault
	if n := spent(func() { v = open(t, s, 1) }); n > 1<<28 {
		t.Errorf("Open takes %d bytes", n)
	}
	wantVault(t, "many notes", v, api.Sink{Fence: n, Vector: []int64{0}}, n, int(n))
	want(t, "Fence", v.Fence(1), api.ErrFenced)
	want(t, "Fence", v.Fence(end), api.ErrRoom)
}

// TestBoundWhatIsHeld: notes that were done take no memory, and a call takes no more than what there is.
func TestBoundWhatIsHeld(t *testing.T) {
	s := newStore(t, maxRoom, nil)
	v := open(t, s, 1)
	for epoch := int64(1); epoch <= 40; epoch++ {
		want(t, "Pre", v.Pre(txn(epoch, 1, 0, 4096, 1)), api.OK)
	}
	want(t, "Fence", v.Fence(100), api.OK)
	for range 50 {
		want(t, "Fence", v.Fence(v.Sink().Register()+1), api.OK)
	}
	if n := spent(func() { v.Fence(1000) }); n > 1<<16 {
		t.Errorf("a Fence takes %d bytes", n)
	}
	wantVault(t, "fenced", v, api.Sink{Fence: 1000, Vector: []int64{0}}, v.Last(), v.Notes())
}
