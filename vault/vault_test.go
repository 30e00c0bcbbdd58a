package vault_test

import (
	"fmt"
	"math"
	"reflect"
	"slices"
	"testing"

	"pontoon/api"
	"pontoon/sink"
	"pontoon/store"
	"pontoon/vault"
)

const (
	least   = math.MinInt64
	most    = math.MaxInt64
	end     = 9007199254740992 // MaxNum, as the document tells it
	maxRoom = 4194304          // MaxRoom
)

// Kinds of acts.
const (
	fence = iota
	pre
	commit
	abort
	kinds
)

// act is a call that may change a vault; it has what that call takes.
type act struct {
	kind  int
	epoch int64
	txn   api.Txn
	key   api.TxnKey
}

func doFence(epoch int64) act {
	return act{kind: fence, epoch: epoch}
}

func doPre(x api.Txn) act {
	return act{kind: pre, txn: x}
}

func doCommit(epoch, id int64) act {
	return act{kind: commit, key: api.TxnKey{Epoch: epoch, Id: id}}
}

func doAbort(epoch, id int64) act {
	return act{kind: abort, key: api.TxnKey{Epoch: epoch, Id: id}}
}

// doer is what takes acts: a vault, or a sink.
type doer interface {
	Fence(epoch int64) api.Errno
	Pre(x api.Txn) api.Errno
	Commit(k api.TxnKey) api.Errno
	Abort(k api.TxnKey) api.Errno
}

func do(d doer, a act) api.Errno {
	switch a.kind {
	case fence:
		return d.Fence(a.epoch)
	case pre:
		return d.Pre(a.txn)
	case commit:
		return d.Commit(a.key)
	}
	return d.Abort(a.key)
}

// place is the record that comes out at that place, unless a test says otherwise; no two are alike.
func place(n int64) api.Record {
	return api.Record{Key: n % 5, Val: 10 * n}
}

// places are the records from one place on, up to another one.
func places(from, to int64) []api.Record {
	var l []api.Record
	for n := from; n < to; n++ {
		l = append(l, place(n))
	}
	return l
}

// txn is a transaction of the records from the place begin on, up to another one.
func txn(epoch, id, begin, to int64, vector ...int64) api.Txn {
	return api.Txn{Epoch: epoch, Id: id, Begin: begin, Records: places(begin, to), Vector: slices.Clone(vector)}
}

func copiedTxn(x api.Txn) api.Txn {
	x.Records = append([]api.Record(nil), x.Records...)
	x.Vector = append([]int64(nil), x.Vector...)
	return x
}

// copied is p in memory of its own, with nil for each list that is empty.
func copied(p api.Sink) api.Sink {
	c := api.Sink{
		Fence:  p.Fence,
		Out:    append([]api.Record(nil), p.Out...),
		Vector: append([]int64(nil), p.Vector...),
		Done:   append([]int64(nil), p.Done...),
	}
	for _, x := range p.Pre {
		c.Pre = append(c.Pre, copiedTxn(x))
	}
	return c
}

// but is p with a change.
func but(p api.Sink, change func(p *api.Sink)) api.Sink {
	p = copied(p)
	change(&p)
	return p
}

// blank is a sink of so many partitions into which nothing was committed.
func blank(parts int) api.Sink {
	return api.Sink{Vector: make([]int64, parts)}
}

// used is a sink of two partitions: six records are committed, 3 and 8 were under its register, 4 and 9 are pre-committed.
func used() api.Sink {
	return api.Sink{
		Fence:  5,
		Out:    places(0, 6),
		Vector: []int64{10, 20},
		Done:   []int64{3, 8},
		Pre:    []api.Txn{txn(5, 4, 6, 8, 12, 20), txn(5, 9, 4, 7, 11, 25)},
	}
}

// short is what a test tells of x, which may have thousands of records.
func short(x any) string {
	text := fmt.Sprintf("%+v", x)
	if len(text) > 400 {
		text = text[:200] + " .. " + text[len(text)-200:]
	}
	return text
}

func want(t *testing.T, what string, got, want api.Errno) {
	t.Helper()
	if got != want {
		t.Fatalf("%s answers %d; want %d", what, got, want)
	}
}

// files are files' bytes by names; nil is a file, too.
type files map[string][]byte

// with is f and one file more, or in another one's place.
func (f files) with(name string, b []byte) files {
	out := files{name: b}
	for other, b := range f {
		if other != name {
			out[other] = b
		}
	}
	return out
}

// newStore is a store with these files, all of them sure.
func newStore(t *testing.T, room int, f files) *store.Store {
	t.Helper()
	s, e := store.New(room)
	want(t, "store.New", e, api.OK)
	for name, b := range f {
		want(t, "Create", s.Create(name), api.OK)
		want(t, "Write", s.Write(name, 0, b), api.OK)
		want(t, "Sync", s.Sync(name), api.OK)
	}
	return s
}

// disk is all that there is to be seen of a store: each file's bytes, and which of them are sure.
type disk struct {
	up      bool
	pending int
	left    int
	bytes   map[string]string
	sure    map[string]string
}

// tell answers what there is to be seen of a store, up or down; nothing of it is changed.
func tell(t *testing.T, s *store.Store) disk {
	t.Helper()
	d := disk{up: s.Up(), pending: s.Pending(), left: s.Left(), bytes: map[string]string{}, sure: map[string]string{}}
	open := s
	if !s.Up() {
		open = s.Clone()
		want(t, "Start of a clone that is down", open.Start(), api.OK)
	}
	for name := range s.Names() {
		size, _ := open.Size(name)
		b, e := open.Read(name, 0, size)
		want(t, "Read", e, api.OK)
		sure, e := open.Sure(name)
		want(t, "Sure", e, api.OK)
		d.bytes[name], d.sure[name] = string(b), string(sure)
	}
	return d
}

// wantFiles holds a store against the files that it must have, all of them sure.
func wantFiles(t *testing.T, what string, s *store.Store, f files) {
	t.Helper()
	d := tell(t, s)
	texts := map[string]string{}
	for name, b := range f {
		texts[name] = string(b)
	}
	if d.pending != 0 || !reflect.DeepEqual(d.bytes, texts) || !reflect.DeepEqual(d.sure, texts) {
		t.Fatalf("%s: the store has, with %d pending, %s; want %s", what, d.pending, short(d.bytes), short(texts))
	}
}

func open(t *testing.T, s *store.Store, parts int) *vault.Vault {
	t.Helper()
	v, e := vault.Open(s, parts)
	want(t, "Open", e, api.OK)
	return v
}

// wantVault holds all that v tells against what it must be.
func wantVault(t *testing.T, what string, v *vault.Vault, p api.Sink, last int64, notes int) {
	t.Helper()
	if got := copied(v.Sink().Plain()); !reflect.DeepEqual(got, copied(p)) {
		t.Fatalf("%s: the sink is %s; want %s", what, short(got), short(p))
	}
	if v.Last() != last || v.Notes() != notes {
		t.Fatalf("%s: Last %d, Notes %d; want %d, %d", what, v.Last(), v.Notes(), last, notes)
	}
}

// crashed is s behind a crash, and up again; s goes its own way.
func crashed(t *testing.T, s *store.Store, keep, torn int) *store.Store {
	t.Helper()
	c := s.Clone()
	want(t, "Crash", c.Crash(keep, torn), api.OK)
	want(t, "Start", c.Start(), api.OK)
	return c
}

// wantLasts tells that behind a crash the vault of s is this one.
func wantLasts(t *testing.T, what string, s *store.Store, p api.Sink, last int64, notes int) {
	t.Helper()
	for _, keep := range []int{0, 1, 2} {
		for _, torn := range []int{0, 5} {
			wantVault(t, fmt.Sprint(what, ", behind Crash ", keep, " ", torn), open(t, crashed(t, s, keep, torn), len(p.Vector)), p, last, notes)
		}
	}
}

func fromPlain(t *testing.T, p api.Sink) *sink.Sink {
	t.Helper()
	s, e := sink.From(len(p.Vector), p)
	if e != api.OK {
		t.Fatalf("From(%s) = %d", short(p), e)
	}
	return s
}

// behind is what a sink answers to a, and what it is then.
func behind(t *testing.T, p api.Sink, a act) (api.Errno, api.Sink) {
	t.Helper()
	s := fromPlain(t, p)
	e := do(s, a)
	return e, copied(s.Plain())
}

func TestExample(t *testing.T) {
	s := newStore(t, 100, nil)
	v := open(t, s, 1)
	wantFiles(t, "Open", s, files{"vault.log": nil})
	want(t, "Fence(1)", v.Fence(1), api.OK)
	note := []byte{3, 0, 0, 0, 0, 0, 0, 0, 2, 2, 2, 0, 0, 0, 0}
	copy(note[4:], framed(1, 1, 1)[4:8])
	copy(note[11:], framed(1, 1, 1)[11:])
	wantFiles(t, "Fence(1)", s, files{"vault.log": note})
	want(t, "Crash", s.Crash(0, 0), api.OK)
	want(t, "Start", s.Start(), api.OK)
	v = open(t, s, 1)
	if v.Sink().Register() != 1 {
		t.Errorf("the register is %d", v.Sink().Register())
	}
	wantVault(t, "behind the crash", v, api.Sink{Fence: 1, Vector: []int64{0}}, 1, 1)
}

// TestLimits: the numbers that the document tells.
func TestLimits(t *testing.T) {
	got := []int64{api.MaxNotes, int64(api.ErrVault), api.MaxNum, api.MaxParts, api.MaxRoom, int64(api.ErrMade), int64(api.ErrDown), int64(api.ErrRoom)}
	if want := []int64{32, 160, end, 4, maxRoom, 2, 32, 30}; !reflect.DeepEqual(got, want) {
		t.Errorf("%v; want %v", got, want)
	}
}
