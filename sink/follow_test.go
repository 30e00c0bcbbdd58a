package sink_test

import (
	"math/rand"
	"reflect"
	"slices"
	"testing"

	"pontoon/api"
	"pontoon/sink"
)

// watcher holds a sink against P15.5 to P15.7; it knows what was asked, answered and told alone.
type watcher struct {
	out      []api.Record
	vector   []int64
	register int64
	epoch    int64                 // the greatest of all calls that were answered, but by ErrMade and ErrArg
	once     map[api.TxnKey]uint64 // what was committed, and how often that was asked for again
}

func watch(s *sink.Sink) *watcher {
	w := &watcher{once: map[api.TxnKey]uint64{}}
	w.look(s)
	w.epoch = w.register
	for _, id := range s.Plain().Done {
		w.once[api.TxnKey{Epoch: w.register, Id: id}] = 0
	}
	return w
}

// look notes what s tells.
func (w *watcher) look(s *sink.Sink) {
	p := s.Plain()
	w.out, w.vector, w.register = p.Out, p.Vector, p.Fence
}

// names is the transaction that an act names.
func (a act) names() api.TxnKey {
	if a.kind == pre {
		return api.TxnKey{Epoch: a.txn.Epoch, Id: a.txn.Id}
	}
	return a.key
}

// step does an act, and looks at what comes of it.
func (w *watcher) step(t *testing.T, s *sink.Sink, a act) api.Errno {
	t.Helper()
	before := copied(s.Plain())
	err := do(s, a)
	after := copied(s.Plain())
	w.grows(t, a, after)
	if err != api.ErrMade && err != api.ErrArg {
		w.fences(t, a, err, before, after)
	}
	if a.kind == pre || a.kind == commit {
		w.commitsOnce(t, a, err, before, after)
	}
	w.look(s)
	return err
}

// grows is P15.5.
func (w *watcher) grows(t *testing.T, a act, after api.Sink) {
	t.Helper()
	if len(after.Out) < len(w.out) || !slices.Equal(after.Out[:len(w.out)], w.out) {
		t.Fatalf("P15.5: %s: what is committed is %s; it was %s", short(a), short(after.Out), short(w.out))
	}
	if !modelAbove(after.Vector, w.vector) {
		t.Fatalf("P15.5: %s: the vector is %v; it was %v", short(a), after.Vector, w.vector)
	}
	if after.Fence < w.register {
		t.Fatalf("P15.5: %s: the register is %d; it was %d", short(a), after.Fence, w.register)
	}
}

// fences is P15.6.
func (w *watcher) fences(t *testing.T, a act, err api.Errno, before, after api.Sink) {
	t.Helper()
	if a.under() < w.epoch && (err != api.ErrFenced || !reflect.DeepEqual(before, after)) {
		t.Fatalf("P15.6: %s answers %d behind a call of %d; the sink is %s, it was %s", short(a), err, w.epoch, short(after), short(before))
	}
	if a.under() >= w.epoch && err == api.ErrFenced {
		t.Fatalf("P15.6: %s is fenced off, with no call but of %d ahead of it", short(a), w.epoch)
	}
	w.epoch = max(w.epoch, a.under())
}

// commitsOnce is P15.7.
func (w *watcher) commitsOnce(t *testing.T, a act, err api.Errno, before, after api.Sink) {
	t.Helper()
	times, committed := w.once[a.names()]
	changed := !slices.Equal(before.Out, after.Out) || !slices.Equal(before.Vector, after.Vector)
	if committed {
		w.once[a.names()] = times + 1
		if changed {
			t.Fatalf("P15.7: %s again: committed are %s, it were %s", short(a), short(after.Out), short(before.Out))
		}
		return
	}
	if changed && (a.kind != commit || err != api.OK) {
		t.Fatalf("P15.7: %s answers %d: committed are %s, it were %s", short(a), err, short(after.Out), short(before.Out))
	}
	if a.kind == commit && err == api.OK {
		w.once[a.names()] = 0
	}
}

// repeats are calls of what m has, or had: those that may be asked for again, or come late.
func repeats(r *rand.Rand, m *model, had []act) act {
	if len(had) == 0 {
		return someAct(r, m)
	}
	a := had[r.Intn(len(had))]
	if a.kind == pre && r.Intn(4) == 0 {
		return act{kind: commit, key: a.names()}
	}
	return a
}

func TestP155P156P157LongWays(t *testing.T) {
	r := rand.New(rand.NewSource(155))
	again, fenced := uint64(0), 0
	for range 600 {
		s, m := begin(t, r)
		w := watch(s)
		var had []act
		for range 120 {
			a := someAct(r, &m)
			if r.Intn(3) == 0 {
				a = repeats(r, &m, had)
			}
			had = append(had, a)
			m.do(a)
			if w.step(t, s, a) == api.ErrFenced {
				fenced++
			}
		}
		for _, times := range w.once {
			again += times
		}
	}
	if again < 1000 || fenced < 1000 {
		t.Errorf("just %d were asked for again, %d fenced off", again, fenced)
	}
}

// followWatched does all of these acts, so many one behind the other, with a watcher.
func followWatched(t *testing.T, s *sink.Sink, w *watcher, left int, acts []act) {
	if left == 0 {
		return
	}
	had := copied(s.Plain())
	for _, a := range acts {
		c := s.Clone()
		next := *w
		next.once = map[api.TxnKey]uint64{}
		for k, n := range w.once {
			next.once[k] = n
		}
		next.step(t, c, a)
		if !reflect.DeepEqual(copied(c.Plain()), had) {
			followWatched(t, c, &next, left-1, acts)
		}
	}
}

func TestP155P156P157AllShortWays(t *testing.T) {
	s, _ := sink.New(1)
	followWatched(t, s, watch(s), 5, shortActs())
	s = fromPlain(t, used())
	followWatched(t, s, watch(s), 4, []act{
		doFence(6), doCommit(5, 4), doCommit(5, 9), doCommit(5, 7), doCommit(6, 7), doCommit(6, 4), doAbort(5, 4), doAbort(6, 7),
		doPre(news()), doPre(txn(5, 4, 6, 9, 30, 30)), doPre(txn(5, 3, 6, 9, 30, 30)), doPre(spoilt(txn(5, 7, 4, 9, 30, 30), 4)), doPre(txn(6, 7, 6, 9, 30, 30)), doPre(txn(6, 4, 0, 7, 11, 21)),
	})
}

// TestP156EachCallFences: a call of an epoch, whatever it answers but ErrArg, has each lesser one refused from then on.
func TestP156EachCallFences(t *testing.T) {
	p := used()
	for _, a := range []act{
		doFence(6), doCommit(6, 4), doCommit(6, 30), doAbort(6, 9), doPre(txn(6, 7, 6, 8, 10, 20)),
		doPre(txn(6, 7, 7, 8, 10, 20)), doPre(txn(6, 7, 6, 8, 9, 20)), doPre(spoilt(txn(6, 7, 3, 8, 10, 20), 0)), doPre(txn(6, 7, 6, maxIn+1, 10, 20)),
	} {
		s := fromPlain(t, p)
		do(s, a)
		then := copied(s.Plain())
		for epoch := int64(1); epoch < 6; epoch++ {
			for _, late := range []act{doFence(epoch), doPre(altered(news(), func(x *api.Txn) { x.Epoch = epoch })), doPre(altered(p.Pre[0], func(x *api.Txn) { x.Epoch = epoch })), doCommit(epoch, 4), doCommit(epoch, 3), doCommit(epoch, 7), doAbort(epoch, 4), doAbort(epoch, 3)} {
				if e := do(s, late); e != api.ErrFenced {
					t.Errorf("behind %s: %s answers %d", short(a), short(late), e)
				}
				wantStand(t, s, then)
			}
		}
	}
	// What answers ErrArg fences nobody off.
	for _, spoil := range flaws() {
		s := fromPlain(t, p)
		do(s, doPre(altered(altered(news(), func(x *api.Txn) { x.Epoch = 6 }), spoil)))
		do(s, doCommit(6, 0))
		do(s, doAbort(6, end+1))
		do(s, doFence(end+1))
		if e := do(s, doPre(news())); e != api.OK {
			t.Errorf("Pre answers %d", e)
		}
		wantStand(t, s, with(p, news()))
	}
}

// TestP157Once: two owners, each of which makes the same records, asks for what it has made, and for that again; in all each record comes out once.
func TestP157Once(t *testing.T) {
	r := rand.New(rand.NewSource(157))
	for range 300 {
		s, _ := sink.New(1)
		w := watch(s)
		for epoch := int64(1); s.Len() < 60; epoch++ {
			// An owner begins with a checkpoint that may lie behind what is committed, but not ahead of it.
			at := max(0, s.Len()-r.Int63n(9))
			for id := int64(1); r.Intn(12) > 0; id++ {
				to := at + r.Int63n(7)
				x := txn(epoch, id, at, to, to)
				acts := []act{doPre(x), doCommit(epoch, id), doPre(x), doCommit(epoch, id), doCommit(epoch-1, id), doPre(altered(x, func(x *api.Txn) { x.Epoch-- }))}
				for _, i := range r.Perm(3) {
					w.step(t, s, acts[i])
				}
				for _, a := range acts {
					w.step(t, s, a)
				}
				if s.Len() >= to {
					at = to
				}
			}
		}
		wantOut(t, s, places(0, s.Len()))
		if v := s.Vector(); v[0] != s.Len() {
			t.Fatalf("the vector is %v for %d records", v, s.Len())
		}
	}
}

// TestP158GoesOn: From of Plain, at any time, answers and tells what the sink does from then on; so does a clone.
func TestP158GoesOn(t *testing.T) {
	r := rand.New(rand.NewSource(158))
	for range 400 {
		s, m := begin(t, r)
		others := []*sink.Sink{s.Clone()}
		for n := range 80 {
			if n%8 == 0 {
				others = append(others[max(0, len(others)-3):], fromPlain(t, s.Plain()))
			}
			a := someAct(r, &m)
			want := do(s, a)
			m.do(a)
			then := copied(s.Plain())
			for _, o := range others {
				if got := do(o, a); got != want {
					t.Fatalf("%s answers %d; the sink answered %d", short(a), got, want)
				}
				wantStand(t, o, then)
			}
		}
	}
}

// TestP158EachStand: of sinks that may be in whatever way, of which all acts are tried.
func TestP158EachStand(t *testing.T) {
	p := used()
	for _, x := range []api.Txn{txn(5, 20, 7, 9, 10, 20), txn(5, 21, 6, 8, 9, 20), spoilt(txn(5, 23, 3, 7, 10, 20), 2)} {
		p = with(p, x)
	}
	for _, p := range []api.Sink{used(), full(), p, raised(used(), end), {Vector: []int64{0, 0}}} {
		s := fromPlain(t, p)
		for _, way := range append(ways(), []act{doCommit(5, 20), doCommit(5, 21), doCommit(5, 23)}, []act{doPre(suitable()), doCommit(5, 11), doAbort(5, 12), doPre(suitable())}) {
			one, m := s.Clone(), modelOf(p)
			for _, a := range way {
				n := m.clone()
				checkAct(t, fromPlain(t, one.Plain()), &n, a)
				checkAct(t, one, &m, a)
			}
		}
	}
}
