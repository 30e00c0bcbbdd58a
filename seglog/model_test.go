package seglog_test

import (
	"cmp"
	"encoding/binary"
	"fmt"
	"hash/crc32"
	"math"
	"math/rand"
	"regexp"
	"slices"
	"strconv"
	"testing"

	"pontoon/api"
	"pontoon/seglog"
	"pontoon/store"
)

// model does what the chapter tells, word by word, on a store of its own, with all records at hand.
type model struct {
	s    *store.Store
	most int
	segs []modelSegment
	sure int64
}

type modelSegment struct {
	base    int64
	records []string
}

func (g modelSegment) name() string { return "p." + strconv.FormatInt(g.base, 10) }

func (g modelSegment) next() int64 { return g.base + int64(len(g.records)) }

func (g modelSegment) bytes() []byte {
	var out []byte
	for _, r := range g.records {
		out = append(out, modelFrame(r)...)
	}
	return out
}

func modelFrame(record string) []byte {
	castagnoli := crc32.MakeTable(crc32.Castagnoli)
	length := binary.LittleEndian.AppendUint32(nil, uint32(len(record)))
	out := binary.LittleEndian.AppendUint32(length, crc32.Checksum(length, castagnoli))
	out = append(out, record...)
	return binary.LittleEndian.AppendUint32(out, crc32.Checksum([]byte(record), castagnoli))
}

// split is the records of the whole frames with which b begins, and how many bytes are left behind them.
func split(b []byte) ([]string, int) {
	var out []string
	for len(b) >= 12 {
		length := int64(binary.LittleEndian.Uint32(b))
		if length > 1<<18 || length+12 > int64(len(b)) || string(modelFrame(string(b[8:8+length]))) != string(b[:12+length]) {
			break
		}
		out = append(out, string(b[8:8+length]))
		b = b[12+length:]
	}
	return out, len(b)
}

func (m *model) last() *modelSegment { return &m.segs[len(m.segs)-1] }

func (m *model) base() int64 { return m.segs[0].base }

func (m *model) next() int64 { return m.last().next() }

var segmentName = regexp.MustCompile(`^p\.(0|[1-9][0-9]{0,15})$`)

func openModel(s *store.Store, most int) (*model, api.Errno) {
	if !s.Up() {
		return nil, api.ErrDown
	}
	if most < 64 || most > 1<<22 {
		return nil, api.ErrArg
	}
	m := &model{s: s, most: most}
	left := 0
	for name := range s.Names() {
		found := segmentName.FindStringSubmatch(name)
		if found == nil {
			continue
		}
		base, err := strconv.ParseInt(found[1], 10, 64)
		if err != nil || base > 1<<53 {
			continue
		}
		m.segs = append(m.segs, modelSegment{base: base})
	}
	if len(m.segs) == 0 {
		m.segs = []modelSegment{{}}
		return m, s.Create("p.0")
	}
	slices.SortFunc(m.segs, func(a, b modelSegment) int { return cmp.Compare(a.base, b.base) })
	for i := range m.segs {
		size, _ := s.Size(m.segs[i].name())
		b, _ := s.Read(m.segs[i].name(), 0, size)
		m.segs[i].records, left = split(b)
		if i < len(m.segs)-1 && (left > 0 || m.segs[i].next() != m.segs[i+1].base) {
			return nil, api.ErrSegment
		}
	}
	m.sure = m.next()
	if left > 0 {
		return m, s.Cut(m.last().name(), len(m.last().bytes()))
	}
	return m, s.Sync(m.last().name())
}

func (m *model) append(records ...string) (int64, api.Errno) {
	for _, r := range records {
		if len(r) > 1<<18 {
			return 0, api.ErrLong
		}
	}
	first := m.next()
	if first+int64(len(records)) > 1<<53 {
		return 0, api.ErrArg
	}
	if len(records) == 0 {
		return first, api.OK
	}
	if len(m.last().bytes()) >= m.most {
		if e := m.s.Sync(m.last().name()); e != api.OK {
			return 0, e
		}
		created := modelSegment{base: first}
		if e := m.s.Create(created.name()); e != api.OK {
			return 0, e
		}
		m.segs = append(m.segs, created)
		m.sure = first
	}
	if e := m.s.Write(m.last().name(), len(m.last().bytes()), modelSegment{records: records}.bytes()); e != api.OK {
		return 0, e
	}
	m.last().records = slices.Concat(m.last().records, records)
	return first, api.OK
}

func (m *model) sync() api.Errno {
	e := m.s.Sync(m.last().name())
	if e == api.OK {
		m.sure = m.next()
	}
	return e
}

func (m *model) cut(to int64) api.Errno {
	if to < m.base() || to > m.next() {
		return api.ErrArg
	}
	for len(m.segs) > 1 && m.last().base >= to {
		if e := m.s.Remove(m.last().name()); e != api.OK {
			return e
		}
		m.segs = m.segs[:len(m.segs)-1]
	}
	left := modelSegment{base: m.last().base, records: m.last().records[:to-m.last().base]}
	if e := m.s.Cut(left.name(), len(left.bytes())); e != api.OK {
		return e
	}
	*m.last() = left
	m.sure = to
	return api.OK
}

func (m *model) drop(below int64) api.Errno {
	if below > m.next() {
		return api.ErrArg
	}
	for len(m.segs) > 1 && m.segs[0].next() <= below {
		if e := m.s.Remove(m.segs[0].name()); e != api.OK {
			return e
		}
		m.segs = m.segs[1:]
	}
	return api.OK
}

func (m *model) begin(base int64) api.Errno {
	if base < 0 || base > 1<<53 {
		return api.ErrArg
	}
	if e := m.cut(m.base()); e != api.OK {
		return e
	}
	was := m.segs[0].name()
	m.segs = []modelSegment{{base: base}}
	m.sure = base
	return m.s.Rename(was, m.segs[0].name())
}

func (m *model) tell() string {
	var all []string
	for _, g := range m.segs {
		all = append(all, g.records...)
	}
	if !m.s.Up() {
		return fmt.Sprintf("base %d, next %d, sure %d, %d segments", m.base(), m.next(), m.sure, len(m.segs))
	}
	return tells(m.base(), m.sure, len(m.segs), all...)
}

// pick takes bytes one by one, and zeros behind their end.
type pick []byte

func (p *pick) next() int {
	if len(*p) == 0 {
		return 0
	}
	n := int((*p)[0])
	*p = (*p)[1:]
	return n
}

// offset is mostly within the log or near to it, sometimes far.
func (p *pick) offset(m *model) int64 {
	n := p.next()
	if n >= 250 {
		return []int64{math.MinInt64, math.MaxInt64, -1, 1 << 53, 1<<53 + 1, 1<<53 - 3}[n-250]
	}
	return m.base() - 1 + int64(n)%(m.next()-m.base()+3)
}

func (p *pick) records() ([]string, [][]byte) {
	var texts []string
	var list [][]byte
	for range p.next() % 4 {
		b := make([]byte, p.next()%24)
		for i := range b {
			b[i] = byte('a' + p.next()%26)
		}
		texts, list = append(texts, string(b)), append(list, b)
	}
	return texts, list
}

// both is a log and its model, which stand on stores that are alike.
type both struct {
	t *testing.T
	s *store.Store
	l *seglog.Log
	m *model
}

// reopen opens both anew.
func (b *both) reopen(most int) (string, api.Errno, api.Errno) {
	l, e := seglog.Open(b.s, "p", most)
	m, e2 := openModel(b.m.s, most)
	if e == api.OK && e2 == api.OK {
		b.l, b.m = l, m
	}
	return fmt.Sprintf("Open(%d)", most), e, e2
}

// step does the same to both, and answers what it was and both errors.
func (b *both) step(p *pick) (string, api.Errno, api.Errno) {
	kind := p.next()
	if !b.s.Up() && kind%2 == 0 {
		// A log is opened anew behind a crash, at once.
		ok(b.t, b.s.Start())
		ok(b.t, b.m.s.Start())
		return b.reopen(64 + p.next()%100)
	}
	switch kind / 2 % 15 {
	case 0, 1, 2, 3, 4, 5, 6:
		texts, list := p.records()
		n, e := b.l.Append(list...)
		n2, e2 := b.m.append(texts...)
		if n != n2 {
			b.t.Fatalf("Append(%q) = %d, want %d", texts, n, n2)
		}
		return fmt.Sprintf("Append(%q)", texts), e, e2
	case 7, 8:
		return "Sync()", b.l.Sync(), b.m.sync()
	case 9, 10:
		to := p.offset(b.m)
		return fmt.Sprintf("Cut(%d)", to), b.l.Cut(to), b.m.cut(to)
	case 11:
		below := p.offset(b.m)
		return fmt.Sprintf("Drop(%d)", below), b.l.Drop(below), b.m.drop(below)
	case 12:
		base := p.offset(b.m)
		if p.next()%4 > 0 {
			base = b.m.base()
		}
		return fmt.Sprintf("Begin(%d)", base), b.l.Begin(base), b.m.begin(base)
	case 13:
		keep, torn := p.next(), p.next()
		return fmt.Sprintf("Crash(%d, %d)", keep, torn), b.s.Crash(keep, torn), b.m.s.Crash(keep, torn)
	default:
		return b.reopen(62 + p.next()%200)
	}
}

// check holds all that is to be seen of a log against the model.
func (b *both) check(p *pick, done string) {
	b.t.Helper()
	if got, want := tellStore(b.t, b.s), tellStore(b.t, b.m.s); got != want {
		b.t.Fatalf("%s\nstore: %s\nwant:  %s", done, got, want)
	}
	got, want := "", b.m.tell()
	if b.s.Up() {
		got = tell(b.t, b.l)
	} else {
		got = fmt.Sprintf("base %d, next %d, sure %d, %d segments", b.l.Base(), b.l.Next(), b.l.Sure(), b.l.Segments())
	}
	if got != want {
		b.t.Fatalf("%s\nis:   %s\nwant: %s", done, got, want)
	}
	from, all := p.offset(b.m), ""
	if b.s.Up() {
		for _, g := range b.m.segs {
			for i, r := range g.records {
				if at := g.base + int64(i); at >= from {
					all += listed(at, r)
				}
			}
		}
	}
	if got := collect(b.l, from); got != all {
		b.t.Fatalf("%s\nAll(%d): %s\nwant: %s", done, from, got, all)
	}
	wantErr := api.OK
	switch {
	case !b.s.Up():
		wantErr = api.ErrDown
	case from < b.m.base():
		wantErr = api.ErrGone
	case from >= b.m.next():
		wantErr = api.ErrNone
	}
	if got, e := b.l.Read(from); e != wantErr || e != api.OK && got != nil {
		b.t.Fatalf("%s\nRead(%d) = %q, %d", done, from, got, e)
	}
}

// checkSteps holds a log against the model, step by step.
func checkSteps(t *testing.T, bytes []byte) {
	t.Helper()
	p := pick(bytes)
	room := 100 + 8*p.next()
	base := []string{"0", "7", "96", "9007199254740980"}[p.next()%4]
	files := []string{"p." + base, "", "p.01", "no segment"}
	b := &both{t: t, s: newStore(t, room, files...), m: &model{s: newStore(t, room, files...)}}
	done, e, e2 := b.reopen(64 + p.next()%100)
	ok(t, max(e, e2))
	for len(p) > 0 {
		what, got, want := b.step(&p)
		done += "\n" + what
		if got != want {
			t.Fatalf("%s = %d, want %d", done, got, want)
		}
		b.check(&p, done)
	}
}

func TestP4StepByStep(t *testing.T) {
	r := rand.New(rand.NewSource(4))
	for range 2000 {
		b := make([]byte, 20+r.Intn(900))
		r.Read(b)
		checkSteps(t, b)
	}
}

func FuzzLog(f *testing.F) {
	r := rand.New(rand.NewSource(5))
	for n := range 20 {
		b := make([]byte, 20*n)
		r.Read(b)
		f.Add(b)
	}
	f.Fuzz(checkSteps)
}
