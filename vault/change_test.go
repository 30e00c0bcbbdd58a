package vault_test

import (
	"fmt"
	"reflect"
	"slices"
	"testing"

	"pontoon/api"
	"pontoon/store"
	"pontoon/vault"
)

// someActs are calls of a vault that is used(): what changes it and what does not, with and without an error.
func someActs() []act {
	l := []act{doFence(least), doFence(0), doFence(4), doFence(5), doFence(6), doFence(end), doFence(end + 1)}
	l = append(l,
		doPre(api.Txn{}), doPre(txn(5, 7, 6, 8, 12)), doPre(txn(4, 7, 6, 8, 12, 20)), doPre(txn(5, 3, 6, 8, 12, 20)), doPre(txn(5, 4, 6, 8, 12, 20)), doPre(txn(5, 4, 6, 9, 12, 20)),
		doPre(txn(5, 7, 6, 8, 12, 21)), doPre(txn(5, 7, 4, 6, 10, 20)), doPre(txn(5, 7, 6, 6, 10, 20)), doPre(txn(5, 7, 7, 8, 12, 21)), doPre(txn(5, 7, 6, 8, 9, 21)), doPre(txn(5, 7, 3, 5, 10, 20)),
		doPre(api.Txn{Epoch: 5, Id: 7, Begin: 5, Records: places(0, 3), Vector: []int64{10, 20}}), doPre(txn(5, 7, 6, 4097, 10, 20)), doPre(txn(5, end, 0, 4096, end, end)),
		// These raise the register, and are refused.
		doPre(txn(6, 7, 7, 8, 12, 21)), doPre(txn(6, 7, 6, 8, 9, 21)), doPre(api.Txn{Epoch: 6, Id: 7, Begin: 5, Records: places(0, 3), Vector: []int64{10, 20}}), doPre(txn(end, 7, 6, 4097, 10, 20)), doPre(txn(6, 4, 6, 8, 12, 20)))
	for _, epoch := range []int64{0, 4, 5, 6, end, end + 1} {
		for _, id := range []int64{0, 1, 3, 4, 8, 9, end, end + 1} {
			l = append(l, doCommit(epoch, id), doAbort(epoch, id))
		}
	}
	return l
}

// TestP163Calls: the answer is the sink's, and there is a note of what changes it, of nothing else.
func TestP163Calls(t *testing.T) {
	changed := map[api.Errno]int{}
	for _, a := range someActs() {
		f := files{"vault": fileOf(40, used()), "vault.log": nil}
		s := newStore(t, maxRoom, f)
		v := open(t, s, 2)
		e, p := behind(t, used(), a)
		want(t, short(a), do(v, a), e)
		if reflect.DeepEqual(p, copied(used())) {
			wantVault(t, short(a), v, used(), 40, 0)
			wantFiles(t, short(a), s, f)
			continue
		}
		changed[e]++
		f = f.with("vault.log", noteOf(41, a))
		wantVault(t, short(a), v, p, 41, 1)
		wantFiles(t, short(a), s, f)
		wantLasts(t, short(a), s, p, 41, 1)
		// One more stands behind it.
		want(t, "Fence", v.Fence(end), api.OK)
		if p.Fence < end {
			wantFiles(t, short(a), s, f.with("vault.log", logOf(41, a, doFence(end))))
		}
	}
	for _, e := range []api.Errno{api.OK, api.ErrGap, api.ErrBehind, api.ErrDiffer, api.ErrRoom, api.ErrNone} {
		if changed[e] == 0 {
			t.Errorf("nothing changed the sink beside %d", e)
		}
	}
}

// TestP163Twice: what was done already is not noted again.
func TestP163Twice(t *testing.T) {
	s := newStore(t, maxRoom, nil)
	v := open(t, s, 1)
	acts := []act{doFence(1), doPre(txn(1, 1, 0, 2, 1)), doCommit(1, 1), doPre(txn(1, 2, 2, 3, 1)), doAbort(1, 2), doPre(txn(2, 1, 2, 3, 1))}
	for i, a := range acts {
		for range 3 {
			want(t, short(a), do(v, a), api.OK)
			wantFiles(t, short(a), s, files{"vault.log": logOf(1, acts[:i+1]...)})
			if v.Last() != int64(i+1) || v.Notes() != i+1 {
				t.Fatalf("%s: Last %d, Notes %d", short(a), v.Last(), v.Notes())
			}
		}
	}
}

// TestP163First: the number of the first note is one more than what was kept, or than the last one of the log.
func TestP163First(t *testing.T) {
	kept := fileOf(7, used())
	for _, c := range []struct {
		files  files
		number int64
	}{
		{files{}, 1},
		{files{"vault": kept}, 8},
		{files{"vault.log": logOf(1, doFence(1), doFence(2))}, 3},
		{files{"vault.log": logOf(-9, doFence(1), doFence(2))}, 1},
		{files{"vault": kept, "vault.log": logOf(7, doFence(1))}, 8},
		{files{"vault": kept, "vault.log": logOf(8, doFence(1))}, 9},
		{files{"vault": kept, "vault.log": logOf(6, doFence(1), doFence(6), doFence(7), doFence(8))}, 10},
		// Here all are below what was kept.
		{files{"vault": kept, "vault.log": logOf(2, doFence(1), doFence(2))}, 8},
		{files{"vault": fileOf(end-1, used())}, end},
	} {
		s := newStore(t, maxRoom, c.files)
		v := open(t, s, 2)
		want(t, "Fence", v.Fence(100), api.OK)
		wantFiles(t, fmt.Sprint("number ", c.number), s, c.files.with("vault.log", append(slices.Clone(c.files["vault.log"]), noteOf(c.number, doFence(100))...)))
		if v.Last() != c.number {
			t.Errorf("Last is %d; want %d", v.Last(), c.number)
		}
	}
}

// wantNothing tells that a call is refused by the store, and that nothing comes of it.
func wantNothing(t *testing.T, what string, s *store.Store, v *vault.Vault, a act, err api.Errno) {
	t.Helper()
	p, last, notes, had := v.Sink().Plain(), v.Last(), v.Notes(), fmt.Sprint(tell(t, s))
	for range 2 {
		want(t, what, do(v, a), err)
		wantVault(t, what, v, p, last, notes)
		if got := fmt.Sprint(tell(t, s)); got != had {
			t.Fatalf("%s: the store is %s; it was %s", what, short(got), short(had))
		}
	}
}

// TestP163NoRoom: a note that has no room is refused, to the byte.
func TestP163NoRoom(t *testing.T) {
	for _, a := range someActs() {
		e, p := behind(t, used(), a)
		if reflect.DeepEqual(p, copied(used())) {
			continue
		}
		f := files{"vault": fileOf(40, used()), "vault.log": logOf(40, doFence(1))}
		size := len(f["vault"]) + len(f["vault.log"])
		note := len(noteOf(41, a))
		for _, left := range []int{0, 1, note - 1} {
			s := newStore(t, size+left, f)
			v := open(t, s, 2)
			wantNothing(t, short(a), s, v, a, api.ErrRoom)
			wantLasts(t, short(a), s, used(), 40, 1)
		}
		s := newStore(t, size+note, f)
		v := open(t, s, 2)
		want(t, short(a), do(v, a), e)
		wantVault(t, short(a), v, p, 41, 2)
		if s.Left() != 0 {
			t.Errorf("%s: %d bytes are left", short(a), s.Left())
		}
	}
}

// TestP163Refused: a store that is down, or has no log any more, refuses notes; what needs no note is the sink's.
func TestP163Refused(t *testing.T) {
	f := files{"vault": fileOf(40, used()), "vault.log": nil}
	for _, a := range someActs() {
		e, p := behind(t, used(), a)
		same := reflect.DeepEqual(p, copied(used()))
		s := newStore(t, maxRoom, f)
		v := open(t, s, 2)
		want(t, "Crash", s.Crash(0, 0), api.OK)
		err := map[bool]api.Errno{true: e, false: api.ErrDown}[same]
		wantNothing(t, "down: "+short(a), s, v, a, err)
		want(t, "Start", s.Start(), api.OK)
		want(t, "Remove", s.Remove("vault.log"), api.OK)
		err = map[bool]api.Errno{true: e, false: api.ErrNone}[same]
		wantNothing(t, "gone: "+short(a), s, v, a, err)
		// It goes on where it was, once there is one again.
		want(t, "Create", s.Create("vault.log"), api.OK)
		want(t, short(a), do(v, a), e)
		if !same {
			wantVault(t, short(a), v, p, 41, 1)
			wantFiles(t, short(a), s, f.with("vault.log", noteOf(41, a)))
		}
	}
}

// TestP163SyncsItsNoteAlone: what others have pending stays so.
func TestP163SyncsItsNoteAlone(t *testing.T) {
	s := newStore(t, maxRoom, files{"other": {1, 2}, "vault": fileOf(3, used())})
	v := open(t, s, 2)
	for i := range int64(70) {
		want(t, "Write", s.Write("other", 1, []byte{byte(i)}), api.OK)
		want(t, "Fence", v.Fence(6+i), api.OK)
		if d := tell(t, s); d.pending != int(i)+1 || d.sure["other"] != "\x01\x02" || d.bytes["vault.log"] != d.sure["vault.log"] || d.bytes["vault"] != d.sure["vault"] {
			t.Fatalf("behind %d notes %s", i+1, short(d))
		}
	}
}

// filled is a vault with so many notes, Fences of rising epochs, on a store with so much room, and other files.
func filled(t *testing.T, s *store.Store, notes int) (*vault.Vault, []act) {
	t.Helper()
	v := open(t, s, 2)
	var acts []act
	for i := range notes {
		acts = append(acts, doFence(int64(10+i)))
		want(t, "Fence", do(v, acts[i]), api.OK)
	}
	return v, acts
}

func fenced(epoch int64) api.Sink {
	return api.Sink{Fence: epoch, Vector: []int64{0, 0}}
}

// TestP163KeptAnew: MaxNotes notes are kept anew, again and again; whatever the last one of them answers.
func TestP163KeptAnew(t *testing.T) {
	for _, a := range []act{doFence(50), doPre(txn(60, 1, 0, 3, 1, 1)), doPre(txn(60, 1, 1, 3, 1, 1)), doCommit(60, 1), doAbort(60, 1)} {
		s := newStore(t, maxRoom, nil)
		v, acts := filled(t, s, 31)
		wantFiles(t, "31 notes", s, files{"vault.log": logOf(1, acts...)})
		wantVault(t, "31 notes", v, fenced(40), 31, 31)
		e, p := behind(t, fenced(40), a)
		// What changes nothing does not keep anew, either.
		want(t, "Fence", v.Fence(40), api.OK)
		want(t, "Fence", v.Fence(1), api.ErrFenced)
		wantFiles(t, "31 notes", s, files{"vault.log": logOf(1, acts...)})
		want(t, short(a), do(v, a), e)
		wantVault(t, "32 notes", v, p, 32, 0)
		wantFiles(t, "32 notes", s, files{"vault": fileOf(32, p), "vault.log": nil})
		wantLasts(t, "32 notes", s, p, 32, 0)
		acts = nil
		for i := range 32 {
			acts = append(acts, doFence(int64(100+i)))
			want(t, "Fence", do(v, acts[i]), api.OK)
			p.Fence, p.Done, p.Pre = int64(100+i), nil, nil
			if i < 31 {
				wantFiles(t, "more notes", s, files{"vault": tellBytes(t, s, "vault"), "vault.log": logOf(33, acts...)})
				wantVault(t, "more notes", v, p, int64(33+i), i+1)
				wantLasts(t, "more notes", s, p, int64(33+i), i+1)
			}
		}
		wantFiles(t, "64 notes", s, files{"vault": fileOf(64, p), "vault.log": nil})
		wantVault(t, "64 notes", v, p, 64, 0)
	}
}

func tellBytes(t *testing.T, s *store.Store, name string) []byte {
	t.Helper()
	return []byte(tell(t, s).bytes[name])
}

// TestP163KeptBehindOpen: notes that Open found count, those that are passed over, too.
func TestP163KeptBehindOpen(t *testing.T) {
	for _, c := range []struct{ first, kept int64 }{{1, 0}, {1, 5}, {1, 30}, {-20, 0}, {1, 31}, {1, 100}} {
		var acts []act
		p := fenced(9)
		for i := range int64(31) {
			acts = append(acts, doFence(10+i))
			if c.first+i > c.kept {
				p.Fence = 10 + i
			}
		}
		f := files{"vault": fileOf(c.kept, fenced(9)), "vault.log": logOf(c.first, acts...)}
		s := newStore(t, maxRoom, f)
		v := open(t, s, 2)
		last := max(c.kept, c.first+30)
		wantVault(t, "31 notes", v, p, last, 31)
		want(t, "Fence", v.Fence(200), api.OK)
		wantVault(t, "32 notes", v, fenced(200), last+1, 0)
		wantFiles(t, "32 notes", s, files{"vault": fileOf(last+1, fenced(200)), "vault.log": nil})
	}
}

// TestP163KeptInVain: where all can't be kept anew, the log is as it was, and it is tried again behind the next note, and the one behind that.
func TestP163KeptInVain(t *testing.T) {
	for _, tries := range []int{1, 2, 3, 40} {
		for _, had := range []bool{false, true} {
			f := files{}
			if had {
				f = files{"vault": fileOf(0, fenced(2))}
			}
			s := crowded(t, f)
			want(t, "Remove", s.Remove(fmt.Sprint("f", len(f))), api.OK)
			v, acts := filled(t, s, 31)
			var p api.Sink
			for i := range tries {
				acts = append(acts, doFence(int64(200+i)))
				want(t, "Fence", do(v, acts[31+i]), api.OK)
				p = fenced(int64(200 + i))
				wantVault(t, "in vain", v, p, int64(32+i), 32+i)
				d := tell(t, s)
				if d.bytes["vault.log"] != string(logOf(1, acts...)) || d.bytes["vault"] != string(f["vault"]) || d.pending != 0 || len(d.bytes) != 4096 {
					t.Fatalf("in vain: %s", short(d))
				}
				wantVault(t, "in vain, behind a crash", open(t, crashed(t, s, 1, 1), 2), p, int64(32+i), 32+i)
			}
			// What is no note does not try it again.
			want(t, "Remove", s.Remove("f500"), api.OK)
			want(t, "Fence", v.Fence(p.Fence), api.OK)
			want(t, "Abort", v.Abort(api.TxnKey{Epoch: p.Fence, Id: 1}), api.OK)
			want(t, "Fence", v.Fence(3), api.ErrFenced)
			wantVault(t, "no note", v, p, int64(31+tries), 31+tries)
			// A note does, also one beside an error.
			if had {
				want(t, "Pre", v.Pre(txn(1000, 1, 1, 3, 1, 1)), api.ErrGap)
			} else {
				want(t, "Fence", v.Fence(1000), api.OK)
			}
			wantVault(t, "kept anew", v, fenced(1000), int64(32+tries), 0)
			d := tell(t, s)
			if d.bytes["vault.log"] != "" || d.bytes["vault"] != string(fileOf(int64(32+tries), fenced(1000))) || d.pending != 0 {
				t.Fatalf("kept anew: %s", short(d))
			}
		}
	}
}

// TestP163KeptInVainOfRoom: to the byte.
func TestP163KeptInVainOfRoom(t *testing.T) {
	for _, had := range []api.Sink{{}, used()} {
		f := files{"filler": make([]byte, 100)}
		if had.Fence > 0 {
			f = f.with("vault", fileOf(0, had))
		}
		var acts []act
		for i := range 33 {
			acts = append(acts, doFence(int64(10+i)))
		}
		p := but(blank(2), func(p *api.Sink) { p.Fence, p.Out = 41, had.Out })
		if had.Fence > 0 {
			p.Vector = had.Vector
		}
		log := logOf(1, acts[:32]...)
		all := fileOf(32, p)
		size := 100 + len(f["vault"]) + len(log) + len(all)
		for _, room := range []int{size, size - 1, size - len(all)} {
			s := newStore(t, room, f)
			v := open(t, s, 2)
			for _, a := range acts[:32] {
				want(t, "Fence", do(v, a), api.OK)
			}
			if room == size {
				wantVault(t, "room", v, p, 32, 0)
				wantFiles(t, "room", s, f.with("vault", all).with("vault.log", nil))
				continue
			}
			wantVault(t, "no room", v, p, 32, 32)
			wantFiles(t, "no room", s, f.with("vault.log", log))
			wantLasts(t, "no room", s, p, 32, 32)
			// With room, the next note keeps all.
			want(t, "Cut", s.Cut("filler", 0), api.OK)
			want(t, "Fence", do(v, acts[32]), api.OK)
			p := but(p, func(p *api.Sink) { p.Fence = 42 })
			wantVault(t, "the next note", v, p, 33, 0)
			wantFiles(t, "the next note", s, files{"filler": nil, "vault": fileOf(33, p), "vault.log": nil})
		}
	}
}

// TestP163KeptInVainOfName: a vault.tmp that somebody else made is removed, and is in nobody's way at the next note.
func TestP163KeptInVainOfName(t *testing.T) {
	for _, tmp := range [][]byte{nil, {1, 2}, make([]byte, 1000)} {
		s := newStore(t, maxRoom, files{"other": {3}})
		v, acts := filled(t, s, 31)
		want(t, "Create", s.Create("vault.tmp"), api.OK)
		want(t, "Write", s.Write("vault.tmp", 0, tmp), api.OK)
		acts = append(acts, doFence(41))
		want(t, "Fence", v.Fence(41), api.OK)
		wantVault(t, "in vain", v, fenced(41), 32, 32)
		wantFiles(t, "in vain", s, files{"other": {3}, "vault.log": logOf(1, acts...)})
		want(t, "Fence", v.Fence(42), api.OK)
		wantVault(t, "the next note", v, fenced(42), 33, 0)
		wantFiles(t, "the next note", s, files{"other": {3}, "vault": fileOf(33, fenced(42)), "vault.log": nil})
	}
}

// broad is a transaction whose form has twenty bytes a record: four of them have no room in one frame.
func broad(epoch, id int64) api.Txn {
	x := api.Txn{Epoch: epoch, Id: id, Vector: []int64{1, 1}}
	for i := range int64(4096) {
		x.Records = append(x.Records, api.Record{Key: least + i, Val: most - i})
	}
	return x
}

// TestP163KeptInVainOfLength: more than a frame takes is not kept anew; notes last it.
func TestP163KeptInVainOfLength(t *testing.T) {
	s := newStore(t, maxRoom, nil)
	v, acts := filled(t, s, 26)
	p := fenced(35)
	for id := int64(1); id <= 8; id++ {
		a := doPre(broad(35, id))
		want(t, "Pre", do(v, a), api.OK)
		acts, p.Pre = append(acts, a), append(p.Pre, a.txn)
	}
	wantVault(t, "too long", v, p, 34, 34)
	wantFiles(t, "too long", s, files{"vault.log": logOf(1, acts...)})
	wantLasts(t, "too long", s, p, 34, 34)
	for id := int64(8); id >= 4; id-- {
		want(t, "Abort", do(v, doAbort(35, id)), api.OK)
		p.Pre = p.Pre[:id-1]
		if n := 34 + 9 - int(id); id > 4 {
			wantVault(t, "still too long", v, p, int64(n), n)
		}
	}
	wantVault(t, "three of them", v, p, 39, 0)
	wantFiles(t, "three of them", s, files{"vault": fileOf(39, p), "vault.log": nil})
	wantLasts(t, "three of them", s, p, 39, 0)
}

// TestP165ManyDone: more that is done under one epoch than ParseSink takes is kept all the same.
func TestP165ManyDone(t *testing.T) {
	p := api.Sink{Fence: 1, Vector: []int64{0}}
	for id := int64(1); id <= 8185; id++ {
		p.Done = append(p.Done, id)
	}
	s := newStore(t, maxRoom, files{"vault": fileOf(500, p)})
	v := open(t, s, 1)
	for id := int64(8186); id <= 8201; id++ {
		want(t, "Pre", v.Pre(txn(1, id, 0, 0, 0)), api.OK)
		want(t, "Commit", v.Commit(api.TxnKey{Epoch: 1, Id: id}), api.OK)
		p.Done = append(p.Done, id)
		wantLasts(t, "more is done", s, p, v.Last(), v.Notes())
	}
	wantFiles(t, "more is done", s, files{"vault": fileOf(532, p), "vault.log": nil})
	_, e := vault.ParseSink(vault.SinkBytes(p))
	want(t, "ParseSink", e, api.ErrShape)
}

// TestP163KeptWithoutALog: a note that a store refuses keeps nothing anew, however many stand in the log.
func TestP163KeptWithoutALog(t *testing.T) {
	s := crowded(t, nil)
	want(t, "Remove", s.Remove("f0"), api.OK)
	v, _ := filled(t, s, 33)
	wantVault(t, "33 notes", v, fenced(42), 33, 33)
	want(t, "Remove", s.Remove("f1"), api.OK)
	want(t, "Remove", s.Remove("vault.log"), api.OK)
	wantNothing(t, "without a log", s, v, doFence(99), api.ErrNone)
	want(t, "Crash", s.Crash(0, 0), api.OK)
	wantNothing(t, "down", s, v, doFence(99), api.ErrDown)
}

// TestP164Sink: it is a clone, behind each note.
func TestP164Sink(t *testing.T) {
	s := newStore(t, maxRoom, files{"vault": fileOf(3, used())})
	v := open(t, s, 2)
	x := v.Sink()
	want(t, "Commit", x.Commit(api.TxnKey{Epoch: 5, Id: 4}), api.OK)
	want(t, "Fence", x.Fence(9), api.OK)
	wantVault(t, "the clone went on", v, used(), 3, 0)
	y := v.Sink()
	want(t, "Commit", v.Commit(api.TxnKey{Epoch: 5, Id: 4}), api.OK)
	want(t, "Fence", v.Fence(8), api.OK)
	if got := copied(y.Plain()); !reflect.DeepEqual(got, copied(used())) {
		t.Errorf("the clone is %s", short(got))
	}
	if x.Register() != 9 {
		t.Errorf("the clone's register is %d", x.Register())
	}
	wantVault(t, "the vault went on", v, api.Sink{Fence: 8, Out: places(0, 8), Vector: []int64{12, 20}}, 5, 2)
	want(t, "Pre", v.Sink().Pre(txn(8, 1, 8, 9, 20, 20)), api.OK)
	wantVault(t, "one more clone", v, api.Sink{Fence: 8, Out: places(0, 8), Vector: []int64{12, 20}}, 5, 2)
	// It is told, too, while the store is down.
	want(t, "Crash", s.Crash(0, 0), api.OK)
	wantVault(t, "down", v, api.Sink{Fence: 8, Out: places(0, 8), Vector: []int64{12, 20}}, 5, 2)
}

func TestR5WhatNoCallMade(t *testing.T) {
	for name, v := range map[string]*vault.Vault{"nil": nil, "zero": {}, "new": new(vault.Vault)} {
		for range 2 {
			for _, a := range append(someActs(), act{kind: pre}, act{kind: commit}, act{kind: abort}, doPre(broad(1, 1))) {
				want(t, name+": "+short(a), do(v, a), api.ErrMade)
			}
			if v.Sink() != nil || v.Notes() != 0 || v.Last() != 0 {
				t.Errorf("%s: Sink %v, Notes %d, Last %d", name, v.Sink(), v.Notes(), v.Last())
			}
		}
	}
	if v, e := vault.Open(newStore(t, 10, files{"vault": {1}}), 1); v != nil || e != api.ErrVault || v.Fence(1) != api.ErrMade {
		t.Error(v, e)
	}
}

// TestR3WhatIsHandedIn: it is neither written to nor kept.
func TestR3WhatIsHandedIn(t *testing.T) {
	for _, x := range []api.Txn{txn(5, 7, 6, 8, 12, 21), txn(5, 7, 7, 8, 12, 21), txn(6, 7, 6, 8, 12, 21), txn(4, 7, 6, 8, 12, 21), txn(5, 4, 6, 8, 12, 20), txn(5, 7, 6, 6, 10, 20)} {
		s := newStore(t, maxRoom, files{"vault": fileOf(3, used())})
		v := open(t, s, 2)
		_, p := behind(t, used(), doPre(x))
		x.Records = append(x.Records, places(90, 99)...)[:len(x.Records)]
		x.Vector = append(x.Vector, 91, 92)[:2]
		records, vector := x.Records[:cap(x.Records)], x.Vector[:cap(x.Vector)]
		hadRecords, hadVector := slices.Clone(records), slices.Clone(vector)
		v.Pre(x)
		b := vault.TxnBytes(x)
		if !slices.Equal(records, hadRecords) || !slices.Equal(vector, hadVector) {
			t.Errorf("what was handed in is %s now", short(x))
		}
		last, notes := v.Last(), v.Notes()
		clear(records)
		clear(vector)
		wantVault(t, "spoilt", v, p, last, notes)
		wantLasts(t, "spoilt", s, p, last, notes)
		clear(b)
		if vault.TxnBytes(x)[0] == 0 {
			t.Error("bytes are shared")
		}
	}
}

// TestR3Bytes: what is parsed shares nothing with the bytes, nor do lists with each other.
func TestR3Bytes(t *testing.T) {
	b := vault.SinkBytes(used())
	had := slices.Clone(b)
	p, e := vault.ParseSink(b)
	want(t, "ParseSink", e, api.OK)
	if !slices.Equal(b, had) {
		t.Error("the bytes are others now")
	}
	clear(b)
	if !reflect.DeepEqual(copied(p), copied(used())) {
		t.Errorf("%s", short(p))
	}
	// Each list may grow into the room behind it, and none of the others changes.
	for _, x := range p.Pre {
		_ = append(append(x.Records, places(50, 60)...)[:1], places(70, 80)...)
		_ = append(x.Vector, 1, 2, 3)
	}
	_, _, _, _ = append(p.Out, places(30, 60)...), append(p.Vector, 7, 7, 7), append(p.Done, 8, 8, 8), append(p.Pre, api.Txn{Id: 77})
	for i := range p.Pre {
		if !slices.Equal(p.Pre[i].Vector, used().Pre[i].Vector) || !slices.Equal(p.Pre[i].Records[1:], used().Pre[i].Records[1:]) {
			t.Errorf("%s", short(p))
		}
	}
	q := used()
	b = vault.SinkBytes(q)
	if !reflect.DeepEqual(q, used()) {
		t.Error("what was handed in is another one now")
	}
	clear(b)
	if !slices.Equal(vault.SinkBytes(q), had) {
		t.Error("bytes are shared")
	}
}

// TestR4EmptyAndNil: they are the same to a vault.
func TestR4EmptyAndNil(t *testing.T) {
	s := newStore(t, maxRoom, nil)
	v := open(t, s, 1)
	x := api.Txn{Epoch: 1, Id: 1, Vector: []int64{3}}
	y := api.Txn{Epoch: 1, Id: 1, Records: []api.Record{}, Vector: []int64{3}}
	want(t, "Pre", v.Pre(x), api.OK)
	had := tell(t, s)
	want(t, "Pre", v.Pre(y), api.OK)
	if !reflect.DeepEqual(tell(t, s), had) || v.Last() != 1 {
		t.Errorf("Last is %d", v.Last())
	}
	if !slices.Equal(vault.TxnBytes(x), vault.TxnBytes(y)) {
		t.Error("other bytes")
	}
	p := api.Sink{Vector: []int64{}, Out: []api.Record{}, Done: []int64{}, Pre: []api.Txn{}}
	if !slices.Equal(vault.SinkBytes(p), vault.SinkBytes(api.Sink{})) {
		t.Error("other bytes")
	}
	if l, e := vault.ParseTxn([]byte{}); e != api.ErrShort {
		t.Error(l, e)
	}
}
