package vault_test

import (
	"fmt"
	"slices"
	"testing"

	"pontoon/api"
	"pontoon/frame"
	"pontoon/store"
	"pontoon/vault"
)

// wantNone tells that Open answers that error, and no vault.
func wantNone(t *testing.T, what string, s *store.Store, parts int, err api.Errno) {
	t.Helper()
	if v, e := vault.Open(s, parts); v != nil || e != err {
		t.Fatalf("%s: Open answers %v, %d; want %d", what, v, e, err)
	}
}

// wantRefused tells that these files are no vault of two partitions; they stay as they are.
func wantRefused(t *testing.T, what string, f files) {
	t.Helper()
	s := newStore(t, maxRoom, f)
	for range 2 {
		wantNone(t, what, s, 2, api.ErrVault)
		wantFiles(t, what, s, f)
	}
}

// wantOpen tells what the vault of these files is, and what files there are then; opened again, it is the same.
func wantOpen(t *testing.T, what string, f files, p api.Sink, last int64, notes int, then files) {
	t.Helper()
	s := newStore(t, maxRoom, f)
	for range 2 {
		wantVault(t, what, open(t, s, len(p.Vector)), p, last, notes)
		wantFiles(t, what, s, then)
	}
}

func TestP162NoStore(t *testing.T) {
	for _, parts := range []int{least, -1, 0, 1, 4, 5, most} {
		wantNone(t, "nil", nil, parts, api.ErrMade)
		wantNone(t, "zero", &store.Store{}, parts, api.ErrMade)
		s := newStore(t, 100, files{"vault.tmp": {1}, "vault": {2}})
		want(t, "Crash", s.Crash(0, 0), api.OK)
		had := tell(t, s)
		wantNone(t, "down", s, parts, api.ErrDown)
		if got := tell(t, s); fmt.Sprint(got) != fmt.Sprint(had) {
			t.Errorf("the store is %v; it was %v", got, had)
		}
	}
}

func TestP162Parts(t *testing.T) {
	for _, f := range []files{nil, {"vault.tmp": {1}}, {"vault": {2}}, {"vault.log": {3}}} {
		for _, parts := range []int{least, -1, 0, 5, 6, 1 << 32, most} {
			s := newStore(t, 100, f)
			wantNone(t, fmt.Sprint(parts), s, parts, api.ErrArg)
			wantFiles(t, fmt.Sprint(parts), s, f)
		}
	}
	for parts := 1; parts <= 4; parts++ {
		wantOpen(t, fmt.Sprint(parts), nil, blank(parts), 0, 0, files{"vault.log": nil})
	}
}

// TestP162Tmp: it is removed, whatever it is, also ahead of files that are no vault.
func TestP162Tmp(t *testing.T) {
	for _, tmp := range [][]byte{nil, {1, 2, 3}, fileOf(7, used())} {
		for _, f := range []files{nil, {"other": {1}}, {"vault": fileOf(3, used())}, {"vault.log": logOf(1, doFence(5))}} {
			then := f
			if f["vault.log"] == nil {
				then = f.with("vault.log", nil)
			}
			s := newStore(t, maxRoom, f.with("vault.tmp", tmp))
			// What is pending of it goes, too.
			want(t, "Write", s.Write("vault.tmp", 0, []byte{9, 9}), api.OK)
			open(t, s, 2)
			wantFiles(t, "with a vault.tmp", s, then)
		}
		s := newStore(t, maxRoom, files{"vault.tmp": tmp, "vault": {1}})
		wantNone(t, "no vault", s, 2, api.ErrVault)
		wantFiles(t, "no vault", s, files{"vault": {1}})
		s = newStore(t, maxRoom, files{"vault.tmp": tmp, "vault.log": framed()})
		wantNone(t, "no notes", s, 2, api.ErrVault)
		wantFiles(t, "no notes", s, files{"vault.log": framed()})
	}
}

// TestP162OtherNames: files of other names are nothing to a vault.
func TestP162OtherNames(t *testing.T) {
	f := files{"vaul": {1}, "vault.": {2}, "vault.tm": {3}, "vault.tmp2": {4}, "vault.log.": {5}, "Vault": {6}, "log": {7}, "tmp": {8}, ".tmp": {9}, ".log": {0}}
	wantOpen(t, "other names", f, blank(2), 0, 0, f.with("vault.log", nil))
	f = f.with("vault", fileOf(3, used()))
	wantOpen(t, "other names", f, used(), 3, 0, f.with("vault.log", nil))
	f = f.with("vault.log", logOf(4, doFence(6)))
	wantOpen(t, "other names", f, but(blank(2), func(p *api.Sink) { p.Fence, p.Out, p.Vector = 6, places(0, 6), []int64{10, 20} }), 4, 1, f)
}

// TestP162VaultAlone: of each number that may be, and of sinks of all kinds.
func TestP162VaultAlone(t *testing.T) {
	for _, number := range []int64{0, 1, 2, 63, 64, end - 1, end} {
		for _, p := range []api.Sink{used(), blank(1), blank(4), {Fence: end, Vector: []int64{end}, Done: []int64{1, end}}} {
			f := files{"vault": fileOf(number, p)}
			wantOpen(t, fmt.Sprint(number, short(p)), f, p, number, 0, f.with("vault.log", nil))
		}
	}
}

// notVaults are files that have no vault of two partitions.
func notVaults() map[string][]byte {
	good := fileOf(3, used())
	torn := slices.Clone(good[:len(good)-1])
	out := map[string][]byte{
		"nothing":       nil,
		"half a frame":  good[:len(good)/2],
		"a byte":        good[:1],
		"a torn frame":  torn,
		"two frames":    append(slices.Clone(good), good...),
		"a byte behind": append(slices.Clone(good), 0),
		"a byte ahead":  append([]byte{0}, good...),
		"an empty load": framed(),
		"just a number": framed(3),
		"no number":     framed(wordsSink(used())...),
		"a note":        noteOf(3, doFence(5)),
		"bytes behind":  framed(append([]int64{3}, append(wordsSink(used()), 0)...)...),
	}
	for _, n := range []int64{least, -2, -1, end + 1, most} {
		out[fmt.Sprint("the number ", n)] = fileOf(n, used())
	}
	for i := range good {
		turned := slices.Clone(good)
		turned[i] ^= 16
		out[fmt.Sprint("turned at ", i)] = turned
	}
	words := append([]int64{3}, wordsSink(used())...)
	for n := range words {
		out[fmt.Sprint("words up to ", n)] = framed(words[:n]...)
	}
	longer, _ := frame.Make(slices.Concat([]byte{128}, forms(words...)))
	out["a longer form"] = longer
	return out
}

// refusedSinks are those that sink.From refuses of two partitions.
func refusedSinks() map[string]api.Sink {
	return map[string]api.Sink{
		"one partition":    blank(1),
		"three partitions": blank(3),
		"none":             blank(0),
		"Fence below 0":    but(blank(2), func(p *api.Sink) { p.Fence = -1 }),
		"Fence too great":  but(blank(2), func(p *api.Sink) { p.Fence = end + 1 }),
		"too many Out":     but(used(), func(p *api.Sink) { p.Out, p.Pre = places(0, 4097), nil }),
		"a vector below 0": but(used(), func(p *api.Sink) { p.Vector[1] = -1 }),
		"a great vector":   but(used(), func(p *api.Sink) { p.Vector[0] = end + 1 }),
		"Done falls":       but(used(), func(p *api.Sink) { p.Done = []int64{8, 3} }),
		"Done twice":       but(used(), func(p *api.Sink) { p.Done = []int64{8, 8} }),
		"Done of 0":        but(used(), func(p *api.Sink) { p.Done = []int64{0} }),
		"too many Pre":     but(used(), func(p *api.Sink) { p.Pre = nil; p.Pre = append(p.Pre, nine()...) }),
		"Pre may not be":   but(used(), func(p *api.Sink) { p.Pre[0].Begin = -1 }),
		"another epoch":    but(used(), func(p *api.Sink) { p.Pre[1].Epoch = 6 }),
		"Pre is Done":      but(used(), func(p *api.Sink) { p.Pre[0].Id = 3 }),
		"Pre falls":        but(used(), func(p *api.Sink) { p.Pre[0], p.Pre[1] = p.Pre[1], p.Pre[0] }),
		"Fence of 0":       but(used(), func(p *api.Sink) { p.Fence, p.Done, p.Pre = 0, nil, nil }),
	}
}

// nine are one transaction more than may be pre-committed.
func nine() []api.Txn {
	var l []api.Txn
	for id := range int64(9) {
		l = append(l, txn(5, 11+id, 6, 7, 10, 20))
	}
	return l
}

func TestP162NoVault(t *testing.T) {
	bad := notVaults()
	for name, p := range refusedSinks() {
		bad[name] = fileOf(3, p)
	}
	for name, b := range bad {
		wantRefused(t, name, files{"vault": b, "other": {1}})
		wantRefused(t, name, files{"vault": b, "vault.log": nil})
		wantRefused(t, name, files{"vault": b, "vault.log": logOf(1, doFence(7))})
	}
}

// TestP162LogAlone: what its notes say is done; its first number is at most 1.
func TestP162LogAlone(t *testing.T) {
	acts := []act{doFence(1), doPre(txn(1, 3, 0, 2, 1, 1)), doPre(txn(1, 4, 0, 2, 1, 2)), doCommit(1, 3), doAbort(1, 4), doPre(txn(2, 1, 1, 4, 3, 3))}
	stands := []api.Sink{
		blank(2),
		{Fence: 1, Vector: []int64{0, 0}},
		{Fence: 1, Vector: []int64{0, 0}, Pre: []api.Txn{txn(1, 3, 0, 2, 1, 1)}},
		{Fence: 1, Vector: []int64{0, 0}, Pre: []api.Txn{txn(1, 3, 0, 2, 1, 1), txn(1, 4, 0, 2, 1, 2)}},
		{Fence: 1, Out: places(0, 2), Vector: []int64{1, 1}, Done: []int64{3}, Pre: []api.Txn{txn(1, 4, 0, 2, 1, 2)}},
		{Fence: 1, Out: places(0, 2), Vector: []int64{1, 1}, Done: []int64{3}},
		{Fence: 2, Out: places(0, 2), Vector: []int64{1, 1}, Pre: []api.Txn{txn(2, 1, 1, 4, 3, 3)}},
	}
	for n, p := range stands {
		f := files{"vault.log": logOf(1, acts[:n]...)}
		wantOpen(t, fmt.Sprint(n, " notes"), f, p, int64(n), n, f)
	}
}

// TestP162Answers: whatever the sink answers to a note, it is done, and goes by.
func TestP162Answers(t *testing.T) {
	x := txn(5, 7, 6, 8, 12, 21)
	raised := api.Sink{Fence: 6, Out: places(0, 6), Vector: []int64{10, 20}}
	for _, c := range []struct {
		act  act
		err  api.Errno
		then api.Sink
	}{
		{doFence(4), api.ErrFenced, used()},
		{doFence(0), api.ErrArg, used()},
		{doFence(least), api.ErrArg, used()},
		{doFence(most), api.ErrArg, used()},
		{doFence(5), api.OK, used()},
		{doFence(6), api.OK, raised},
		{doPre(api.Txn{}), api.ErrArg, used()},
		{doPre(api.Txn{Epoch: least, Id: most, Begin: least, Records: []api.Record{{Key: least, Val: most}}, Vector: []int64{most, least}}), api.ErrArg, used()},
		{doPre(longTxns(8192)[0]), api.ErrArg, used()},
		{doPre(longTxns(8192)[1]), api.ErrArg, used()},
		{doPre(x), api.OK, but(used(), func(p *api.Sink) { p.Pre = []api.Txn{p.Pre[0], x, p.Pre[1]} })},
		{doPre(txn(5, 7, 7, 8, 12, 21)), api.ErrGap, used()},
		{doPre(txn(5, 7, 6, 8, 12, 19)), api.ErrBehind, used()},
		{doPre(txn(5, 4, 6, 8, 12, 21)), api.ErrTwice, used()},
		{doPre(txn(6, 7, 7, 8, 12, 21)), api.ErrGap, raised},
		{doCommit(5, 4), api.OK, api.Sink{Fence: 5, Out: places(0, 8), Vector: []int64{12, 20}, Done: []int64{3, 4, 8}, Pre: []api.Txn{txn(5, 9, 4, 7, 11, 25)}}},
		{doCommit(5, 6), api.ErrNone, used()},
		{doCommit(5, 3), api.OK, used()},
		{doCommit(6, 4), api.ErrNone, raised},
		{doCommit(least, most), api.ErrArg, used()},
		{doAbort(5, 9), api.OK, but(used(), func(p *api.Sink) { p.Pre = p.Pre[:1] })},
		{doAbort(5, 3), api.ErrTwice, used()},
		{doAbort(6, 1), api.OK, raised},
		{doAbort(most, least), api.ErrArg, used()},
	} {
		if e, p := behind(t, used(), c.act); e != c.err || fmt.Sprint(p) != fmt.Sprint(copied(c.then)) {
			t.Fatalf("the sink answers %d to %s; it is %s", e, short(c.act), short(p))
		}
		f := files{"vault": fileOf(3, used()), "vault.log": logOf(4, c.act)}
		wantOpen(t, short(c.act), f, c.then, 4, 1, f)
		// What stands behind it is done, too.
		f = files{"vault": fileOf(3, used()), "vault.log": logOf(4, c.act, doFence(9))}
		wantOpen(t, short(c.act), f, but(c.then, func(p *api.Sink) { p.Fence, p.Done, p.Pre = 9, nil, nil }), 5, 2, f)
	}
}

// TestP162Both: which numbers a log's notes may have beside a vault file, and which of them are passed over.
func TestP162Both(t *testing.T) {
	for _, kept := range []int64{0, 1, 2, 7, 31, 32, 1000, end - 2, end} {
		for first := kept - 5; first <= kept+4; first++ {
			for notes := range 9 {
				var acts []act
				p, last := used(), kept
				for i := range int64(notes) {
					acts = append(acts, doFence(100+i))
					if first+i > kept {
						last = first + i
						p = but(p, func(p *api.Sink) { p.Fence, p.Done, p.Pre = 100+i, nil, nil })
					}
				}
				f := files{"vault": fileOf(kept, used()), "vault.log": logOf(first, acts...)}
				what := fmt.Sprint("kept ", kept, ", notes from ", first, " on: ", notes)
				if first > kept+1 && notes > 0 {
					wantRefused(t, what, f)
				} else {
					wantOpen(t, what, f, p, last, notes, f)
				}
			}
		}
	}
	for _, first := range []int64{least, least + 1, -end} {
		f := files{"vault.log": logOf(first, doFence(1), doFence(2))}
		wantOpen(t, "far below", f, blank(2), 0, 2, f)
	}
	for _, first := range []int64{2, 3, end, end + 1, most} {
		wantRefused(t, "far above", files{"vault.log": logOf(first, doFence(1))})
	}
	wantRefused(t, "the greatest one", files{"vault": fileOf(end, used()), "vault.log": logOf(most, doFence(9))})
}

// TestP162NoteJustAboveKept: the first note of several that is above kept is done, and none at kept.
func TestP162NoteJustAboveKept(t *testing.T) {
	f := files{"vault": fileOf(3, used()), "vault.log": logOf(2, doFence(99), doCommit(5, 4), doAbort(5, 9))}
	wantOpen(t, "notes 2, 3, 4", f, but(used(), func(p *api.Sink) { p.Pre = p.Pre[:1] }), 4, 3, f)
}

// TestP162Numbers: notes rise one by one, those that are passed over among them.
func TestP162Numbers(t *testing.T) {
	for _, numbers := range [][]int64{{1, 1}, {1, 3}, {1, 2, 4}, {1, 2, 2}, {1, 2, 1}, {1, 0}, {0, 0}, {-5, -3}, {-1, -2}, {-1, 1}, {1, -2}, {1, most}, {1, least}, {-3, -2, -1, 0, 1, 3}, {1, 2, 3, 5, 6}} {
		var b []byte
		for _, n := range numbers {
			b = append(b, noteOf(n, doFence(3))...)
		}
		wantRefused(t, fmt.Sprint(numbers), files{"vault.log": b})
		// Also where all of them are passed over.
		wantRefused(t, fmt.Sprint(numbers), files{"vault.log": b, "vault": fileOf(50, used())})
	}
}

// notNotes are frames that are no notes.
func notNotes() map[string][]byte {
	out := map[string][]byte{"nothing": framed(), "a number": framed(1)}
	for _, kind := range []int64{least, -1, 0, 5, 6, 1 << 32, most} {
		for _, rest := range [][]int64{nil, {1}, {1, 1}, {1, 1, 0, 0, 1, 0}} {
			out[fmt.Sprint("of kind ", kind, rest)] = framed(append([]int64{1, kind}, rest...)...)
		}
	}
	for _, a := range []act{doFence(1), doPre(txn(1, 1, 0, 2, 3, 3)), doPre(txn(1, 1, 0, 0)), doCommit(1, 1), doAbort(1, 1)} {
		note := noteOf(1, a)
		load, _, _ := frame.Take(note)
		for n := range load {
			out[fmt.Sprint("cut at ", n, short(a))], _ = frame.Make(load[:n])
			longer := slices.Insert(slices.Clone(load), n, 128)
			out[fmt.Sprint("longer at ", n, short(a))], _ = frame.Make(longer)
		}
		out["a byte behind "+short(a)], _ = frame.Make(append(load, 0))
		out["bytes behind "+short(a)], _ = frame.Make(append(load, 2, 2))
	}
	words := wordsTxn(txn(1, 1, 0, 2, 3, 3))
	for _, i := range []int{3, 8} {
		for _, n := range []int64{-1, 8193} {
			out[fmt.Sprint("a count of ", n, " at ", i)], _ = frame.Make(slices.Concat(forms(1, 2), spelt(words, i, forms(n)...)))
		}
	}
	for i, x := range longTxns(8193) {
		out[fmt.Sprint("a list that is too long ", i)] = noteOf(1, doPre(x))
	}
	return out
}

func TestP162NoNote(t *testing.T) {
	for name, b := range notNotes() {
		wantRefused(t, name, files{"vault.log": b})
		wantRefused(t, name, files{"vault.log": append(slices.Clone(b), noteOf(2, doFence(3))...)})
		wantRefused(t, name, files{"vault.log": append(noteOf(0, doFence(3)), b...)})
		// Also among those that are passed over.
		wantRefused(t, name, files{"vault.log": append(noteOf(0, doFence(3)), b...), "vault": fileOf(7, used())})
	}
}

// TestP162Torn: what stands behind the last whole frame is cut off, wherever that is.
func TestP162Torn(t *testing.T) {
	acts := []act{doFence(1), doPre(txn(1, 3, 0, 2, 1, 1)), doCommit(1, 3)}
	stands := []api.Sink{blank(2), {Fence: 1, Vector: []int64{0, 0}}, {Fence: 1, Vector: []int64{0, 0}, Pre: []api.Txn{txn(1, 3, 0, 2, 1, 1)}}, {Fence: 1, Out: places(0, 2), Vector: []int64{1, 1}, Done: []int64{3}}}
	log := logOf(1, acts...)
	for n := range len(log) + 1 {
		whole := 0
		for whole < 3 && len(logOf(1, acts[:whole+1]...)) <= n {
			whole++
		}
		then := files{"vault.log": logOf(1, acts[:whole]...)}
		wantOpen(t, fmt.Sprint("cut at ", n), files{"vault.log": log[:n]}, stands[whole], int64(whole), whole, then)
		if n < len(log) {
			// A bit that is turned tears the log at that frame, whatever stands behind.
			turned := slices.Clone(log)
			turned[n] ^= 1
			wantOpen(t, fmt.Sprint("turned at ", n), files{"vault.log": turned}, stands[whole], int64(whole), whole, then)
		}
	}
	for _, rest := range [][]byte{{0}, make([]byte, 12), make([]byte, 40), {1, 2, 3, 4, 5, 6, 7, 8}} {
		wantOpen(t, fmt.Sprint("with ", rest), files{"vault.log": append(slices.Clone(log), rest...)}, stands[3], 3, 3, files{"vault.log": log})
	}
	// It goes on behind what was cut off.
	s := newStore(t, maxRoom, files{"vault.log": log[:len(log)-2]})
	v := open(t, s, 2)
	want(t, "Fence", v.Fence(8), api.OK)
	wantFiles(t, "goes on", s, files{"vault.log": logOf(1, acts[0], acts[1], doFence(8))})
}

// TestP162TornNoNote: a frame that is no note is no vault, also ahead of what was torn; that is cut off all the same.
func TestP162TornNoNote(t *testing.T) {
	s := newStore(t, maxRoom, files{"vault.log": append(framed(1, 5), 1, 2, 3)})
	wantNone(t, "no note", s, 2, api.ErrVault)
	wantFiles(t, "no note", s, files{"vault.log": framed(1, 5)})
}

// TestP162Syncs: a log that is whole is made sure, and one that is torn, too.
func TestP162Syncs(t *testing.T) {
	log := logOf(1, doFence(1), doFence(2))
	for _, rest := range []int{0, 3} {
		s := newStore(t, maxRoom, files{"vault.log": log[:5], "other": {1}})
		want(t, "Write", s.Write("other", 0, []byte{7}), api.OK)
		want(t, "Write", s.Write("vault.log", 5, append(slices.Clone(log[5:]), make([]byte, rest)...)), api.OK)
		wantVault(t, "pending", open(t, s, 1), api.Sink{Fence: 2, Vector: []int64{0}}, 2, 2)
		if d := tell(t, s); d.pending != 1 || d.sure["vault.log"] != string(log) || d.bytes["vault.log"] != string(log) {
			t.Errorf("with %d bytes more: %d pending, %q, sure %q", rest, d.pending, d.bytes["vault.log"], d.sure["vault.log"])
		}
	}
}

// crowded is a store with these files, and as many more as it may have.
func crowded(t *testing.T, f files) *store.Store {
	t.Helper()
	s := newStore(t, maxRoom, f)
	for i := len(f); i < 4096; i++ {
		want(t, "Create", s.Create(fmt.Sprint("f", i)), api.OK)
	}
	return s
}

// TestP162NoFile: the store's error of Create of a log; what it needs no file for goes on.
func TestP162NoFile(t *testing.T) {
	for _, f := range []files{nil, {"vault": fileOf(3, used())}} {
		s := crowded(t, f)
		had := fmt.Sprint(tell(t, s))
		wantNone(t, "no file", s, 2, api.ErrFull)
		if fmt.Sprint(tell(t, s)) != had {
			t.Error("the store has changed")
		}
	}
	wantNone(t, "no file, no vault", crowded(t, files{"vault": {1}}), 2, api.ErrVault)
	s := crowded(t, files{"vault.tmp": {1}})
	wantVault(t, "in the place of vault.tmp", open(t, s, 2), blank(2), 0, 0)
	s = crowded(t, files{"vault.log": logOf(1, doFence(1))})
	wantVault(t, "with a log", open(t, s, 1), api.Sink{Fence: 1, Vector: []int64{0}}, 1, 1)
}

// TestP162NoRoom: a store without any room has room for an empty log.
func TestP162NoRoom(t *testing.T) {
	wantVault(t, "no room", open(t, newStore(t, 0, nil), 3), blank(3), 0, 0)
}

// TestP162OtherParts: a vault is one of its partitions; of notes of others the sink takes none.
func TestP162OtherParts(t *testing.T) {
	for parts := 1; parts <= 4; parts++ {
		s := newStore(t, maxRoom, files{"vault": fileOf(3, used())})
		if parts == 2 {
			wantVault(t, "its parts", open(t, s, parts), used(), 3, 0)
		} else {
			wantNone(t, "other parts", s, parts, api.ErrVault)
		}
		s = newStore(t, maxRoom, files{"vault.log": logOf(1, doFence(1), doPre(txn(1, 1, 0, 1, 7, 7)), doCommit(1, 1))})
		p := but(blank(parts), func(p *api.Sink) { p.Fence = 1 })
		if parts == 2 {
			p = api.Sink{Fence: 1, Out: places(0, 1), Vector: []int64{7, 7}, Done: []int64{1}}
		}
		wantVault(t, "notes of two parts", open(t, s, parts), p, 3, 3)
	}
}

// TestP162ManyNotes: a log may have more notes than MaxNotes; it stays as it is till the next one.
func TestP162ManyNotes(t *testing.T) {
	for _, n := range []int{31, 32, 33, 64, 500} {
		var acts []act
		for i := range n {
			acts = append(acts, doFence(int64(i+1)))
		}
		f := files{"vault.log": logOf(1, acts...)}
		p := api.Sink{Fence: int64(n), Vector: []int64{0}}
		wantOpen(t, fmt.Sprint(n, " notes"), f, p, int64(n), n, f)
		s := newStore(t, maxRoom, f)
		v := open(t, s, 1)
		want(t, "Fence", v.Fence(1000), api.OK)
		p.Fence = 1000
		wantVault(t, "one more", v, p, int64(n+1), 0)
		wantFiles(t, "one more", s, files{"vault": fileOf(int64(n+1), p), "vault.log": nil})
	}
}
