package vault_test

import (
	"fmt"
	"math/rand"
	"reflect"
	"slices"
	"testing"

	"pontoon/api"
	"pontoon/frame"
	"pontoon/pack"
	"pontoon/sink"
	"pontoon/store"
	"pontoon/vault"
)

// model is a vault that does what the chapter tells, word by word, on a store of its own.
type model struct {
	store *store.Store
	sink  *sink.Sink
	kept  int64
	above []int64 // the numbers of the notes above kept
	stand int     // how many notes stand in the log
}

// words reads numbers from the left; once there is none, or one that may not be, it is bad.
type words struct {
	b   []byte
	bad bool
}

func (w *words) next(from, to int64) int64 {
	n, size, e := pack.First(w.b)
	if w.bad || e != api.OK || n < from || n > to {
		w.bad = true
		return 0
	}
	w.b = w.b[size:]
	return n
}

func (w *words) any() int64 {
	return w.next(least, most)
}

// count is how many there are of a list: no more than that many, and than there are bytes.
func (w *words) count(greatest int64) int {
	n := w.next(0, greatest)
	if n > int64(len(w.b)) {
		w.bad = true
		return 0
	}
	return int(n)
}

func (w *words) ints(greatest int64) []int64 {
	var l []int64
	for range w.count(greatest) {
		l = append(l, w.any())
	}
	return l
}

func (w *words) records(greatest int64) []api.Record {
	var l []api.Record
	for range w.count(greatest) {
		key := w.any()
		l = append(l, api.Record{Key: key, Val: w.any()})
	}
	return l
}

func (w *words) txn(greatest int64) api.Txn {
	var x api.Txn
	x.Epoch = w.any()
	x.Id = w.any()
	x.Begin = w.any()
	x.Records = w.records(greatest)
	x.Vector = w.ints(greatest)
	return x
}

func (w *words) plain() api.Sink {
	var p api.Sink
	p.Fence = w.any()
	p.Out = w.records(most)
	p.Vector = w.ints(most)
	p.Done = w.ints(most)
	for range w.count(most) {
		p.Pre = append(p.Pre, w.txn(most))
	}
	return p
}

// wordNote is a note's number, and what it says.
func wordNote(b []byte) (int64, act, bool) {
	w := &words{b: b}
	number := w.any()
	a := act{kind: int(w.next(1, 4)) - 1}
	switch a.kind {
	case fence:
		a.epoch = w.any()
	case pre:
		a.txn = w.txn(8192)
	case commit, abort:
		a.key.Epoch = w.any()
		a.key.Id = w.any()
	}
	return number, a, !w.bad && len(w.b) == 0
}

func content(s *store.Store, name string) []byte {
	size, _ := s.Size(name)
	b, _ := s.Read(name, 0, size)
	return b
}

func isThere(s *store.Store, name string) bool {
	return slices.Contains(slices.Collect(s.Names()), name)
}

func modelOpen(s *store.Store, parts int) (*model, api.Errno) {
	if s == nil || !s.Up() {
		return nil, api.ErrDown
	}
	m := &model{store: s}
	var e api.Errno
	if m.sink, e = sink.New(parts); e != 0 {
		return nil, e
	}
	if isThere(s, "vault.tmp") {
		s.Remove("vault.tmp")
	}
	if isThere(s, "vault") {
		if !m.readVault(parts) {
			return nil, 160
		}
	}
	if !isThere(s, "vault.log") {
		if e := s.Create("vault.log"); e != 0 {
			return nil, e
		}
		return m, 0
	}
	b := content(s, "vault.log")
	loads, last, _ := frame.Scan(b)
	if last < len(b) {
		s.Cut("vault.log", last)
	} else {
		s.Sync("vault.log")
	}
	if !m.readLog(loads) {
		return nil, 160
	}
	return m, 0
}

// readVault takes the sink, and kept, from the file vault, if it is one.
func (m *model) readVault(parts int) bool {
	loads, _, e := frame.Scan(content(m.store, "vault"))
	if e != 0 || len(loads) != 1 {
		return false
	}
	w := &words{b: loads[0]}
	m.kept = w.next(0, end)
	p := w.plain()
	if w.bad || len(w.b) > 0 {
		return false
	}
	m.sink, e = sink.From(parts, p)
	return e == 0
}

func (m *model) readLog(loads [][]byte) bool {
	var numbers []int64
	for _, load := range loads {
		number, a, ok := wordNote(load)
		if !ok {
			return false
		}
		numbers = append(numbers, number)
		if number > m.kept {
			m.above = append(m.above, number)
			do(m.sink, a)
		}
	}
	for i := range numbers {
		if i > 0 && numbers[i]-numbers[i-1] != 1 {
			return false
		}
	}
	m.stand = len(numbers)
	return len(numbers) == 0 || numbers[0] <= m.kept+1
}

func (m *model) last() int64 {
	if len(m.above) == 0 {
		return m.kept
	}
	return m.above[len(m.above)-1]
}

func (m *model) do(a act) api.Errno {
	clone := m.sink.Clone()
	answer := do(clone, a)
	if reflect.DeepEqual(copied(clone.Plain()), copied(m.sink.Plain())) {
		return answer
	}
	number := m.last() + 1
	size, _ := m.store.Size("vault.log")
	if e := m.store.Write("vault.log", size, noteOf(number, a)); e != 0 {
		return e
	}
	m.store.Sync("vault.log")
	m.sink = clone
	m.above = append(m.above, number)
	m.stand++
	if m.stand >= 32 {
		m.keepAnew()
	}
	return answer
}

func (m *model) keepAnew() {
	b, e := frame.Make(forms(append([]int64{m.last()}, wordsSink(m.sink.Plain())...)...))
	if e == 0 {
		e = m.store.Create("vault.tmp")
	}
	if e == 0 {
		e = m.store.Write("vault.tmp", 0, b)
	}
	if e != 0 {
		m.store.Remove("vault.tmp")
		return
	}
	m.store.Sync("vault.tmp")
	m.store.Rename("vault.tmp", "vault")
	m.store.Cut("vault.log", 0)
	m.kept = m.last()
	m.above, m.stand = nil, 0
}

// pair is a vault and its model, each on its own store; both are nil while there is no vault.
type pair struct {
	parts int
	v     *vault.Vault
	m     *model
	at    *store.Store
	model *store.Store
	told  []string
}

func newPair(t *testing.T, room, parts int, f files) *pair {
	t.Helper()
	p := &pair{parts: parts, at: newStore(t, room, f)}
	p.model = p.at.Clone()
	return p
}

// wantAlike holds all that there is to be seen of both against each other.
func (p *pair) wantAlike(t *testing.T) {
	t.Helper()
	if got, want := tell(t, p.at), tell(t, p.model); !reflect.DeepEqual(got, want) {
		t.Fatalf("%s: the store is %s; want %s", short(p.told), short(got), short(want))
	}
	if p.v == nil {
		return
	}
	if p.v.Last() != p.m.last() || p.v.Notes() != p.m.stand {
		t.Fatalf("%s: Last %d, Notes %d; want %d, %d", short(p.told), p.v.Last(), p.v.Notes(), p.m.last(), p.m.stand)
	}
	if got, want := copied(p.v.Sink().Plain()), copied(p.m.sink.Plain()); !reflect.DeepEqual(got, want) {
		t.Fatalf("%s: the sink is %s; want %s", short(p.told), short(got), short(want))
	}
}

// open opens both, whatever vault there was.
func (p *pair) open(t *testing.T) api.Errno {
	t.Helper()
	p.told = append(p.told, "Open")
	v, e := vault.Open(p.at, p.parts)
	m, wants := modelOpen(p.model, p.parts)
	want(t, short(p.told), e, wants)
	if (v == nil) != (e != api.OK) {
		t.Fatalf("%s: %v beside %d", short(p.told), v, e)
	}
	p.v, p.m = v, m
	p.wantAlike(t)
	return e
}

// act does an act at both, if there are any.
func (p *pair) act(t *testing.T, a act) api.Errno {
	t.Helper()
	p.told = append(p.told, short(a))
	if p.v == nil {
		want(t, short(p.told), do(p.v, a), api.ErrMade)
		return api.ErrMade
	}
	e := do(p.v, a)
	want(t, short(p.told), e, p.m.do(a))
	p.wantAlike(t)
	return e
}

// both does the same to both stores.
func (p *pair) both(t *testing.T, what string, f func(s *store.Store) api.Errno) {
	t.Helper()
	p.told = append(p.told, what)
	want(t, short(p.told), f(p.at), f(p.model))
	p.wantAlike(t)
}

// crash has both stores crash, and start.
func (p *pair) crash(t *testing.T, keep, torn int) {
	t.Helper()
	p.both(t, "Crash", func(s *store.Store) api.Errno { return s.Crash(keep, torn) })
}

func (p *pair) start(t *testing.T) {
	t.Helper()
	p.both(t, "Start", func(s *store.Store) api.Errno { return s.Start() })
}

// clone is a pair that is the same, and goes its own way: its vaults are opened.
func (p *pair) clone(t *testing.T) *pair {
	t.Helper()
	c := &pair{parts: p.parts, at: p.at.Clone(), model: p.model.Clone(), told: slices.Clone(p.told)}
	c.open(t)
	return c
}

// shortActs are a few calls that come in each other's way.
func shortActs() []act {
	return []act{
		doFence(2), doPre(txn(1, 1, 0, 2, 2)), doPre(txn(1, 2, 0, 1, 1)), doPre(txn(2, 1, 1, 3, 3)), doPre(txn(3, 1, 5, 6, 3)),
		doCommit(1, 1), doCommit(1, 2), doCommit(2, 1), doAbort(1, 1), doAbort(2, 1),
	}
}

// follow does all short acts, so many one behind the other; each goes on from what Open answers.
func follow(t *testing.T, p *pair, left int) {
	if left == 0 {
		return
	}
	for _, a := range shortActs() {
		c := p.clone(t)
		had := c.m.last()
		c.act(t, a)
		if c.m.last() > had {
			follow(t, c, left-1)
		}
	}
}

// TestModelOfAllShortWays: from nothing, and from just ahead of what is kept anew.
func TestModelOfAllShortWays(t *testing.T) {
	p := newPair(t, 1000, 1, nil)
	p.open(t)
	follow(t, p, 3)
	var acts []act
	for range 30 {
		acts = append(acts, doFence(1))
	}
	p = newPair(t, 1000, 1, files{"vault.log": logOf(1, acts...)})
	p.open(t)
	follow(t, p, 3)
}

// someTxn is a transaction that mostly suits a sink.
func someTxn(r *rand.Rand, s *sink.Sink) api.Txn {
	length := s.Len()
	begin := length - r.Int63n(min(length, 4)+1)
	x := txn(max(s.Register(), 1), 1+r.Int63n(14), begin, max(begin, length+r.Int63n(4)-1), s.Vector()...)
	for i := range x.Vector {
		x.Vector[i] = min(x.Vector[i]+r.Int63n(2), end)
	}
	switch r.Intn(14) {
	case 0:
		x.Epoch += r.Int63n(3) - 1
	case 1:
		x.Vector[r.Intn(len(x.Vector))]--
	case 2:
		x.Begin++
	case 3:
		x.Vector = append(x.Vector, 7)
	case 4:
		x.Epoch, x.Begin = x.Epoch+1, x.Begin+1
	}
	return x
}

// someAct is an act that mostly has to do with what a sink has.
func someAct(r *rand.Rand, s *sink.Sink) act {
	name := api.TxnKey{Epoch: max(s.Register(), 1), Id: 1 + r.Int63n(14)}
	if open := s.Open(); len(open) > 0 && r.Intn(3) > 0 {
		name = open[r.Intn(len(open))]
	}
	switch r.Intn(24) {
	case 0:
		name.Epoch += r.Int63n(3) - 1
	case 1:
		name.Id = r.Int63n(2) * (end + 1)
	}
	switch n := r.Intn(40); {
	case n < 2:
		return doFence(s.Register() + r.Int63n(3) - 1)
	case n == 2:
		return doFence(r.Int63n(2) * (end + 1))
	case n < 26:
		return doPre(someTxn(r, s))
	case n < 36:
		return act{kind: commit, key: name}
	}
	return act{kind: abort, key: name}
}

// disturb is what somebody else does to a store.
func (p *pair) disturb(t *testing.T, r *rand.Rand) string {
	t.Helper()
	name := []string{"vault", "vault.log", "vault.tmp", "filler", "filler", "filler"}[r.Intn(6)]
	at, b := r.Intn(400), make([]byte, r.Intn(60))
	r.Read(b)
	switch r.Intn(20) {
	case 0:
		p.both(t, "Remove "+name, func(s *store.Store) api.Errno { return s.Remove(name) })
		return "Remove"
	case 1:
		p.both(t, "Rename "+name, func(s *store.Store) api.Errno { return s.Rename(name, "filler") })
		return "Rename"
	case 2, 3:
		p.both(t, fmt.Sprint("Cut ", name, at), func(s *store.Store) api.Errno { return s.Cut(name, at) })
		return "Cut"
	case 4, 5:
		p.both(t, "Write behind the log", func(s *store.Store) api.Errno {
			size, _ := s.Size("vault.log")
			return s.Write("vault.log", size, b)
		})
		return "behind"
	case 6:
		p.both(t, fmt.Sprint("Write ", name, at), func(s *store.Store) api.Errno { return s.Write(name, at, b) })
		return "Write"
	case 7, 8:
		p.both(t, "Create vault.tmp", func(s *store.Store) api.Errno { return s.Create("vault.tmp") })
		return "tmp"
	case 9, 10, 11, 12:
		// What is left then has room for a few notes, but not for a sink.
		leaves := r.Intn(150)
		p.both(t, "Fill", func(s *store.Store) api.Errno {
			s.Create("filler")
			size, _ := s.Size("filler")
			return s.Write("filler", size, make([]byte, max(s.Left()-leaves, 0)))
		})
		return "Fill"
	default:
		p.both(t, "Empty", func(s *store.Store) api.Errno {
			s.Create("filler")
			return s.Cut("filler", 0)
		})
		return "Empty"
	}
}

// TestModelOfManyActs: calls, crashes, openings, and what others do to the store.
func TestModelOfManyActs(t *testing.T) {
	r := rand.New(rand.NewSource(163))
	seen := map[string]int{}
	for range 500 {
		p := newPair(t, 1200+r.Intn(800), 1+r.Intn(3), nil)
		p.open(t)
		for range 250 {
			p.told = p.told[max(len(p.told)-12, 0):]
			switch n := r.Intn(100); {
			case n < 3:
				seen[p.disturb(t, r)]++
			case n < 5:
				p.crash(t, r.Int(), r.Int())
				if p.v != nil {
					e := p.act(t, someAct(r, p.m.sink))
					seen[fmt.Sprint("down ", e)]++
				}
				seen[fmt.Sprint("Open ", p.open(t))]++
				p.start(t)
				seen[fmt.Sprint("Open ", p.open(t))]++
			case n < 6:
				seen[fmt.Sprint("Open ", p.open(t))]++
			case p.v == nil:
				// Nothing of it is of use any more.
				p = newPair(t, 1200+r.Intn(800), p.parts, nil)
				p.open(t)
			default:
				notes := p.v.Notes()
				e := p.act(t, someAct(r, p.m.sink))
				seen[fmt.Sprint("act ", e)]++
				switch now := p.v.Notes(); {
				case now < notes:
					seen["kept anew"]++
					if notes > 31 {
						seen["kept anew late"]++
					}
				case now > notes && now >= 32:
					seen["kept in vain"]++
				case now == notes && e == api.ErrRoom:
					seen["refused"]++
				}
			}
		}
	}
	for _, what := range []string{
		"Open 0", "Open 32", "Open 160", "down 0", "down 1", "down 32", "down 150",
		"act 0", "act 1", "act 4", "act 5", "act 6", "act 30", "act 150", "act 151", "act 152", "kept anew", "kept anew late", "kept in vain", "refused",
		"Remove", "Rename", "Cut", "behind", "Write", "tmp", "Fill", "Empty",
	} {
		if seen[what] < 20 {
			t.Errorf("of %s there were just %d", what, seen[what])
		}
	}
}

// readActs takes each nine numbers as an act.
func readActs(b []byte) []act {
	var numbers []int64
	for n := range pack.Ints(b) {
		numbers = append(numbers, n)
	}
	var out []act
	for x := range slices.Chunk(numbers, 9) {
		if len(x) < 9 {
			break
		}
		a := act{kind: int(uint64(x[0]) % kinds), epoch: x[1], key: api.TxnKey{Epoch: x[1], Id: x[2]}}
		from := int64(uint64(x[3]) % 5000)
		a.txn = api.Txn{Epoch: x[1], Id: x[2], Begin: x[3], Records: places(from, from+int64(uint64(x[4])%50)), Vector: x[5:7]}
		out = append(out, a)
		switch x[7] % 8 {
		case 1:
			out = append(out, act{kind: -1, epoch: x[8]})
		case 2:
			out = append(out, act{kind: -2, epoch: x[8]})
		}
	}
	return out
}

// FuzzActs takes its bytes as acts of a vault of two partitions, with crashes and fillings of its store.
func FuzzActs(f *testing.F) {
	f.Add(pack.Int(nil, pre, 1, 1, 0, 2, 2, 2, 1, 0, commit, 1, 1, 0, 0, 0, 0, 2, 100, pre, 2, 5, 1, 2, 3, 3, 0, 0, commit, 2, 5, 0, 0, 0, 0, 0, 0))
	var many []int64
	for i := range int64(40) {
		many = append(many, fence, i+1, 0, 0, 0, 0, 0, i%7, i)
	}
	f.Add(pack.Int(nil, many...))
	f.Fuzz(func(t *testing.T, b []byte) {
		p := newPair(t, 2000, 2, nil)
		p.open(t)
		for _, a := range readActs(b) {
			switch a.kind {
			case -1:
				p.crash(t, int(a.epoch), int(a.epoch>>3))
				p.start(t)
				p.open(t)
			case -2:
				p.both(t, "Fill", func(s *store.Store) api.Errno {
					s.Create("filler")
					s.Cut("filler", 0)
					return s.Write("filler", 0, make([]byte, max(s.Left()-int(uint64(a.epoch)%500), 0)))
				})
			default:
				p.act(t, a)
			}
		}
	})
}

// FuzzOpen takes its bytes as the files vault and vault.log: the loads of their frames, and whatever stands behind the log's last one.
func FuzzOpen(f *testing.F) {
	f.Add(forms(append([]int64{3}, wordsSink(used())...)...), forms(4, 1, 6), forms(5, 4, 6, 1), []byte{1, 2})
	f.Add([]byte(nil), forms(append([]int64{1, 2}, wordsTxn(txn(1, 1, 0, 2, 3, 3))...)...), forms(2, 3, 1, 1), []byte(nil))
	f.Fuzz(func(t *testing.T, all, first, second, rest []byte) {
		if len(all)+len(first)+len(second) > 200000 {
			return
		}
		log, _ := frame.Put(nil, first, second)
		had := files{"vault.log": append(log, rest...)}
		if len(all) > 0 {
			had["vault"], _ = frame.Make(all)
		}
		p := newPair(t, maxRoom, 2, had)
		if p.open(t) == api.OK {
			p.act(t, doPre(txn(7, 1, 0, 3, 30, 30)))
			p.act(t, doFence(9))
			p.clone(t)
		}
	})
}
