package sink_test

import (
	"math"
	"math/rand"
	"reflect"
	"slices"
	"testing"

	"pontoon/api"
	"pontoon/pack"
	"pontoon/sink"
)

const (
	least = math.MinInt64
	most  = math.MaxInt64
	end   = 9007199254740992 // MaxNum, as the document tells it
	maxIn = 4096             // MaxOut and MaxTxn, as the chapter tells them
)

// Kinds of acts.
const (
	fence = iota
	pre
	commit
	abort
	kinds
)

// act is a call that may change a sink; it has what that call takes.
type act struct {
	kind  int
	epoch int64
	txn   api.Txn
	key   api.TxnKey
}

func doFence(epoch int64) act {
	return act{kind: fence, epoch: epoch}
}

func doPre(t api.Txn) act {
	return act{kind: pre, txn: t}
}

func doCommit(epoch, id int64) act {
	return act{kind: commit, key: api.TxnKey{Epoch: epoch, Id: id}}
}

func doAbort(epoch, id int64) act {
	return act{kind: abort, key: api.TxnKey{Epoch: epoch, Id: id}}
}

// under is the epoch of an act.
func (a act) under() int64 {
	switch a.kind {
	case fence:
		return a.epoch
	case pre:
		return a.txn.Epoch
	}
	return a.key.Epoch
}

func do(s *sink.Sink, a act) api.Errno {
	switch a.kind {
	case fence:
		return s.Fence(a.epoch)
	case pre:
		return s.Pre(a.txn)
	case commit:
		return s.Commit(a.key)
	}
	return s.Abort(a.key)
}

// model is a sink that does what the chapter tells, word by word.
type model struct {
	parts    int
	register int64
	out      []api.Record
	vector   []int64
	done     []int64 // as they were committed
	open     []api.Txn
}

func newModel(parts int) model {
	return model{parts: parts, vector: make([]int64, parts)}
}

// modelOf is the model of a Plain that may be.
func modelOf(p api.Sink) model {
	p = copied(p)
	return model{parts: len(p.Vector), register: p.Fence, out: p.Out, vector: p.Vector, done: p.Done, open: p.Pre}
}

func copiedTxn(t api.Txn) api.Txn {
	t.Records = append([]api.Record(nil), t.Records...)
	t.Vector = append([]int64(nil), t.Vector...)
	return t
}

// copied is p in memory of its own, with nil for each list that is empty.
func copied(p api.Sink) api.Sink {
	c := api.Sink{
		Fence:  p.Fence,
		Out:    append([]api.Record(nil), p.Out...),
		Vector: append([]int64(nil), p.Vector...),
		Done:   append([]int64(nil), p.Done...),
	}
	for _, t := range p.Pre {
		c.Pre = append(c.Pre, copiedTxn(t))
	}
	return c
}

// plain is all of it, with nil for each list that is empty.
func (m *model) plain() api.Sink {
	p := copied(api.Sink{Fence: m.register, Out: m.out, Vector: m.vector, Done: m.done, Pre: m.open})
	slices.Sort(p.Done)
	for i := range p.Pre {
		for j := range i {
			a, b := p.Pre[j], p.Pre[i]
			if b.Epoch < a.Epoch || b.Epoch == a.Epoch && b.Id < a.Id {
				p.Pre[i], p.Pre[j] = a, b
			}
		}
	}
	return p
}

func (m *model) raise(epoch int64) {
	m.register = epoch
	m.done = nil
	var stays []api.Txn
	for _, t := range m.open {
		if t.Epoch >= epoch {
			stays = append(stays, t)
		}
	}
	m.open = stays
}

func (m *model) fence(epoch int64) api.Errno {
	if epoch < 1 || epoch > end {
		return 1
	}
	if epoch < m.register {
		return 150
	}
	if epoch > m.register {
		m.raise(epoch)
	}
	return 0
}

func modelMayBe(t api.Txn, parts int) bool {
	if t.Epoch < 1 || t.Epoch > end || t.Id < 1 || t.Id > end {
		return false
	}
	if t.Begin < 0 || t.Begin > 4096 || len(t.Records) > 4096 || len(t.Vector) != parts {
		return false
	}
	for _, n := range t.Vector {
		if n < 0 || n > end {
			return false
		}
	}
	return true
}

func modelAbove(a, b []int64) bool {
	if len(a) != len(b) {
		return false
	}
	above := true
	for i := range a {
		above = above && a[i] >= b[i]
	}
	return above
}

func (m *model) suits(t api.Txn) api.Errno {
	length := len(m.out)
	begin := int(t.Begin)
	if begin > length {
		return 151
	}
	if !modelAbove(t.Vector, m.vector) || begin+len(t.Records) < length {
		return 152
	}
	for i, r := range t.Records {
		if begin+i < length && m.out[begin+i] != r {
			return 153
		}
	}
	if begin+len(t.Records) > 4096 {
		return 30
	}
	return 0
}

// find is where what has this name is pre-committed, or -1.
func (m *model) find(epoch, id int64) int {
	for i, t := range m.open {
		if t.Epoch == epoch && t.Id == id {
			return i
		}
	}
	return -1
}

// isDone tells whether what has this name was committed, and its epoch is the register.
func (m *model) isDone(k api.TxnKey) bool {
	return k.Epoch == m.register && slices.Contains(m.done, k.Id)
}

func modelSame(a, b api.Txn) bool {
	a, b = copiedTxn(a), copiedTxn(b)
	return reflect.DeepEqual(a, b)
}

func (m *model) pre(t api.Txn) api.Errno {
	if !modelMayBe(t, m.parts) {
		return 1
	}
	if t.Epoch < m.register {
		return 150
	}
	if t.Epoch > m.register {
		m.raise(t.Epoch)
	}
	if m.isDone(api.TxnKey{Epoch: t.Epoch, Id: t.Id}) {
		return 0
	}
	if at := m.find(t.Epoch, t.Id); at >= 0 {
		if modelSame(m.open[at], t) {
			return 0
		}
		return 5
	}
	if e := m.suits(t); e != 0 {
		return e
	}
	if len(m.open) == 8 {
		return 6
	}
	m.open = append(m.open, copiedTxn(t))
	return 0
}

func modelName(k api.TxnKey) bool {
	return k.Epoch >= 1 && k.Epoch <= end && k.Id >= 1 && k.Id <= end
}

// named is what Commit and Abort begin with.
func (m *model) named(k api.TxnKey) api.Errno {
	if !modelName(k) {
		return 1
	}
	if k.Epoch < m.register {
		return 150
	}
	if k.Epoch > m.register {
		m.raise(k.Epoch)
	}
	return 0
}

func (m *model) commit(k api.TxnKey) api.Errno {
	if e := m.named(k); e != 0 {
		return e
	}
	if m.isDone(k) {
		return 0
	}
	at := m.find(k.Epoch, k.Id)
	if at < 0 {
		return 4
	}
	t := m.open[at]
	if e := m.suits(t); e != 0 {
		return e
	}
	for i, r := range t.Records {
		if int(t.Begin)+i >= len(m.out) {
			m.out = append(m.out, r)
		}
	}
	m.vector = slices.Clone(t.Vector)
	m.done = append(m.done, k.Id)
	m.open = slices.Delete(m.open, at, at+1)
	return 0
}

func (m *model) abort(k api.TxnKey) api.Errno {
	if e := m.named(k); e != 0 {
		return e
	}
	if m.isDone(k) {
		return 5
	}
	if at := m.find(k.Epoch, k.Id); at >= 0 {
		m.open = slices.Delete(m.open, at, at+1)
	}
	return 0
}

func (m *model) do(a act) api.Errno {
	switch a.kind {
	case fence:
		return m.fence(a.epoch)
	case pre:
		return m.pre(a.txn)
	case commit:
		return m.commit(a.key)
	}
	return m.abort(a.key)
}

func (m *model) clone() model {
	return modelOf(m.plain())
}

// checkAct does an act at both, and holds them against each other.
func checkAct(t *testing.T, s *sink.Sink, m *model, a act) api.Errno {
	t.Helper()
	before := copied(s.Plain())
	got, want := do(s, a), m.do(a)
	if got != want {
		t.Fatalf("of %s: %s answers %d; want %d", short(before), short(a), got, want)
	}
	wantStand(t, s, m.plain())
	return got
}

// outcome is a kind of call, and what it answered.
type outcome struct {
	kind int
	err  api.Errno
}

// outcomes are all that there are.
func outcomes() []outcome {
	return []outcome{
		{fence, 0}, {fence, 1}, {fence, 150},
		{pre, 0}, {pre, 1}, {pre, 5}, {pre, 6}, {pre, 30}, {pre, 150}, {pre, 151}, {pre, 152}, {pre, 153},
		{commit, 0}, {commit, 1}, {commit, 4}, {commit, 150}, {commit, 152}, {commit, 153},
		{abort, 0}, {abort, 1}, {abort, 5}, {abort, 150},
	}
}

// shortActs are a few calls that come in each other's way.
func shortActs() []act {
	return []act{
		doFence(2),
		doPre(txn(1, 1, 0, 2, 2)), doPre(txn(1, 2, 0, 1, 1)), doPre(txn(1, 3, 1, 3, 3)), doPre(spoilt(txn(1, 4, 0, 2, 2), 0)), doPre(txn(1, 5, 2, 2, 2)),
		doPre(txn(2, 1, 0, 3, 2)), doPre(txn(2, 2, 1, 2, 2)),
		doCommit(1, 1), doCommit(1, 2), doCommit(1, 3), doCommit(1, 4), doCommit(1, 5), doCommit(2, 1), doCommit(2, 2),
		doAbort(1, 1), doAbort(2, 1),
	}
}

// follow does all of these, so many one behind the other; each goes on from a clone.
func follow(t *testing.T, s *sink.Sink, m model, left int, acts []act) {
	if left == 0 {
		return
	}
	had := m.plain()
	for _, a := range acts {
		c, n := s.Clone(), m.clone()
		checkAct(t, c, &n, a)
		if !reflect.DeepEqual(n.plain(), had) {
			follow(t, c, n, left-1, acts)
		}
	}
	wantStand(t, s, had)
}

func TestModelOfAllShortWays(t *testing.T) {
	s, _ := sink.New(1)
	follow(t, s, newModel(1), 6, shortActs())
}

// someTxn is a transaction that mostly suits m.
func someTxn(r *rand.Rand, m *model) api.Txn {
	length := int64(len(m.out))
	begin := length - r.Int63n(min(length, 4)+1)
	stop := max(begin, length+r.Int63n(5)-1)
	t := txn(max(m.register, 1), 1+r.Int63n(14), begin, stop, m.vector...)
	for i := range t.Vector {
		t.Vector[i] = min(t.Vector[i]+r.Int63n(2), end)
	}
	switch r.Intn(16) {
	case 0:
		t.Epoch += r.Int63n(3) - 1
	case 1:
		t.Vector[r.Intn(len(t.Vector))]--
	case 2:
		t.Begin++
	case 3:
		t = spoilt(t, r.Intn(len(t.Records)+1))
	case 4:
		t.Vector = append(t.Vector, 7)
	case 5:
		t.Id = end + r.Int63n(2)
	}
	return t
}

// someAct is an act that mostly has to do with what m has.
func someAct(r *rand.Rand, m *model) act {
	name := api.TxnKey{Epoch: max(m.register, 1), Id: 1 + r.Int63n(14)}
	if len(m.open) > 0 && r.Intn(3) > 0 {
		name.Id = m.open[r.Intn(len(m.open))].Id
	}
	switch r.Intn(24) {
	case 0:
		name.Epoch += r.Int63n(3) - 1
	case 1:
		name.Id = r.Int63n(2) * (end + 1)
	}
	switch n := r.Intn(40); {
	case n == 0:
		return doFence(m.register + r.Int63n(3) - 1)
	case n == 1:
		return doFence(r.Int63n(2) * (end + 1))
	case n == 2 && len(m.open) > 0:
		return doPre(m.open[r.Intn(len(m.open))])
	case n < 24:
		return doPre(someTxn(r, m))
	case n < 37:
		return act{kind: commit, key: name}
	}
	return act{kind: abort, key: name}
}

// begin is a sink to begin with, of some partitions: a new one, or one that is nearly full.
func begin(t *testing.T, r *rand.Rand) (*sink.Sink, model) {
	parts := 1 + r.Intn(4)
	m := newModel(parts)
	if r.Intn(50) == 0 {
		m.register, m.out = 3, places(0, maxIn-1-r.Int63n(4))
	}
	return fromPlain(t, m.plain()), m
}

func TestModelOfManyActs(t *testing.T) {
	r := rand.New(rand.NewSource(151))
	seen := map[outcome]int{}
	for range 1500 {
		s, m := begin(t, r)
		for range 120 {
			a := someAct(r, &m)
			seen[outcome{a.kind, checkAct(t, s, &m, a)}]++
		}
	}
	for _, o := range outcomes() {
		if seen[o] < 20 {
			t.Errorf("of %+v there were just %d", o, seen[o])
		}
	}
}

// readActs takes each nine numbers as an act.
func readActs(b []byte) []act {
	var numbers []int64
	for n := range pack.Ints(b) {
		numbers = append(numbers, n)
	}
	var out []act
	for x := range slices.Chunk(numbers, 9) {
		if len(x) < 9 {
			break
		}
		a := act{kind: int(uint64(x[0]) % kinds), epoch: x[1], key: api.TxnKey{Epoch: x[1], Id: x[2]}}
		a.txn = api.Txn{Epoch: x[1], Id: x[2], Begin: x[3], Records: places(0, int64(uint64(x[4])%5000)), Vector: x[6:8]}
		if x[3] > 0 && x[3] < 5000 {
			a.txn.Records = places(x[3], x[3]+int64(len(a.txn.Records)))
		}
		if x[5] != 0 {
			a.txn = spoilt(a.txn, int(uint64(x[5])%5000))
		}
		if x[8] != 0 {
			a.txn.Vector = append(x[6:8:8], x[8])
		}
		out = append(out, a)
	}
	return out
}

// FuzzActs takes its bytes as acts of a sink of two partitions.
func FuzzActs(f *testing.F) {
	f.Add(pack.Int(nil, pre, 1, 1, 0, 2, 0, 2, 2, 0, commit, 1, 1, 0, 0, 0, 0, 0, 0, pre, 2, 5, 1, 2, 0, 3, 3, 0, commit, 2, 5, 0, 0, 0, 0, 0, 0, commit, 1, 2, 0, 0, 0, 0, 0, 0))
	f.Add(pack.Int(nil, pre, end, end, 0, 4096, 0, end, end, 0, commit, end, end, 0, 0, 0, 0, 0, 0, pre, end, 1, 4096, 1, 0, end, end, 0, abort, end, 1, 0, 0, 0, 0, 0, 0))
	f.Add(pack.Int(nil, pre, 3, 1, 0, 3, 0, 1, 1, 0, pre, 3, 2, 0, 3, 2, 1, 1, 0, commit, 3, 1, 0, 0, 0, 0, 0, 0, commit, 3, 2, 0, 0, 0, 0, 0, 0, fence, 4, 0, 0, 0, 0, 0, 0, 0))
	f.Fuzz(func(t *testing.T, b []byte) {
		s, _ := sink.New(2)
		m := newModel(2)
		for _, a := range readActs(b) {
			checkAct(t, s, &m, a)
		}
		wantStand(t, fromPlain(t, s.Plain()), m.plain())
	})
}
