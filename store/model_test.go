package store_test

import (
	"bytes"
	"fmt"
	"math"
	"math/big"
	"slices"
	"testing"

	"pontoon/api"
	"pontoon/store"
)

// model does what the chapter tells, word by word: sure bytes, and all files' pending writes in one list.
type model struct {
	room    int
	names   map[string]int // which file has the name
	sure    map[int][]byte
	pending []upon
	made    int
	down    bool
}

// upon is a pending write upon the sure bytes of a file.
type upon struct {
	file int
	at   int
	b    []byte
}

func newModel(room int) *model {
	return &model{room: room, names: map[string]int{}, sure: map[int][]byte{}}
}

// lay answers b with w in it: over what stands there, and behind the end.
func lay(b []byte, at int, w []byte) []byte {
	if at > len(b) {
		panic("a write behind the end")
	}
	out := slices.Concat(b[:at], w)
	if at+len(w) < len(b) {
		out = append(out, b[at+len(w):]...)
	}
	return out
}

func (m *model) read(file int) []byte {
	b := m.sure[file]
	for _, p := range m.pending {
		if p.file == file {
			b = lay(b, p.at, p.b)
		}
	}
	return b
}

func (m *model) sizes() int {
	sum := 0
	for _, file := range m.names {
		sum += len(m.read(file))
	}
	return sum
}

// find answers a file, or the error that comes ahead of the others.
func (m *model) find(name string) (int, api.Errno) {
	if m.down {
		return 0, api.ErrDown
	}
	file, ok := m.names[name]
	if !ok {
		return 0, api.ErrNone
	}
	return file, api.OK
}

func (m *model) create(name string) api.Errno {
	if m.down {
		return api.ErrDown
	}
	if _, ok := m.names[name]; ok || name == "" {
		return api.ErrName
	}
	if len(m.names) == 4096 {
		return api.ErrFull
	}
	m.made++
	m.names[name] = m.made
	m.sure[m.made] = nil
	return api.OK
}

func (m *model) write(name string, at int, b []byte) api.Errno {
	file, e := m.find(name)
	if e != api.OK {
		return e
	}
	now := m.read(file)
	if at < 0 || at > len(now) {
		return api.ErrSpot
	}
	if m.sizes()-len(now)+len(lay(now, at, b)) > m.room {
		return api.ErrRoom
	}
	if len(b) > 0 {
		m.pending = append(m.pending, upon{file, at, bytes.Clone(b)})
	}
	return api.OK
}

// forget takes away a file's pending writes.
func (m *model) forget(file int) {
	m.pending = slices.DeleteFunc(m.pending, func(p upon) bool { return p.file == file })
}

func (m *model) sync(name string) api.Errno {
	file, e := m.find(name)
	if e != api.OK {
		return e
	}
	m.sure[file] = m.read(file)
	m.forget(file)
	return api.OK
}

func (m *model) cut(name string, n int) api.Errno {
	file, e := m.find(name)
	if e != api.OK {
		return e
	}
	if n < 0 || n > len(m.read(file)) {
		return api.ErrSpot
	}
	m.sync(name)
	m.sure[file] = m.sure[file][:n]
	return api.OK
}

func (m *model) rename(name, to string) api.Errno {
	file, e := m.find(name)
	if e != api.OK {
		return e
	}
	if to == "" {
		return api.ErrName
	}
	if to == name {
		return api.OK
	}
	if _, ok := m.names[to]; ok {
		m.remove(to)
	}
	delete(m.names, name)
	m.names[to] = file
	return api.OK
}

func (m *model) remove(name string) api.Errno {
	file, e := m.find(name)
	if e != api.OK {
		return e
	}
	m.forget(file)
	delete(m.names, name)
	return api.OK
}

// share is the absolute value of n (of the least int 0) modulo one more than most.
func share(n, most int) int {
	if n == math.MinInt {
		return 0
	}
	v := new(big.Int).Abs(big.NewInt(int64(n)))
	return int(v.Mod(v, big.NewInt(int64(most)+1)).Int64())
}

func (m *model) crash(keep, torn int) api.Errno {
	if m.down {
		return api.ErrDown
	}
	kept := share(keep, len(m.pending))
	for i, p := range m.pending {
		switch {
		case i < kept:
			m.sure[p.file] = lay(m.sure[p.file], p.at, p.b)
		case i == kept:
			m.sure[p.file] = lay(m.sure[p.file], p.at, p.b[:share(torn, len(p.b))])
		}
	}
	m.pending = nil
	m.down = true
	return api.OK
}

func (m *model) start() api.Errno {
	if !m.down {
		return api.ErrArg
	}
	m.down = false
	return api.OK
}

func (m *model) clone() *model {
	c := *m
	c.names, c.sure = map[string]int{}, map[int][]byte{}
	for name, file := range m.names {
		c.names[name], c.sure[file] = file, m.sure[file]
	}
	c.pending = slices.Clone(m.pending)
	return &c
}

// tell is all that there is to be seen of the model.
func (m *model) tell() string {
	var names []string
	for name := range m.names {
		names = append(names, name)
	}
	slices.Sort(names)
	out := fmt.Sprintf("up %t, pending %d, left %d", !m.down, len(m.pending), m.room-m.sizes())
	for _, name := range names {
		file := m.names[name]
		out += fmt.Sprintf("; %q %q %q", name, m.read(file), m.sure[file])
	}
	return out
}

// tell is all that there is to be seen of a store, up or down: nothing of it is changed.
func tell(t *testing.T, s *store.Store) string {
	t.Helper()
	out := fmt.Sprintf("up %t, pending %d, left %d", s.Up(), s.Pending(), s.Left())
	open := s
	if !s.Up() {
		open = s.Clone()
		if e := open.Start(); e != api.OK {
			t.Fatalf("Start of a clone that is down: %d", e)
		}
	}
	for name := range s.Names() {
		size, e := open.Size(name)
		b, e2 := open.Read(name, 0, size)
		sure, e3 := open.Sure(name)
		if e != api.OK || e2 != api.OK || e3 != api.OK {
			t.Fatalf("of %q: Size %d, Read %d, Sure %d", name, e, e2, e3)
		}
		out += fmt.Sprintf("; %q %q %q", name, b, sure)
	}
	return out
}

// pick takes bytes one by one, and zeros behind their end.
type pick []byte

func (p *pick) next() int {
	if len(*p) == 0 {
		return 0
	}
	n := int((*p)[0])
	*p = (*p)[1:]
	return n
}

// name is one of few, so that they meet; sometimes the empty one.
func (p *pick) name() string {
	return []string{"a", "b", "c", "ab", "", "B"}[p.next()%6]
}

// number is mostly small, sometimes at an edge.
func (p *pick) number() int {
	n := p.next()
	switch {
	case n < 240:
		return n%16 - 1
	case n < 244:
		return math.MinInt + n - 240
	case n < 248:
		return math.MaxInt - n + 244
	}
	return -n
}

func (p *pick) bytes() []byte {
	b := make([]byte, p.next()%9)
	for i := range b {
		b[i] = byte('a' + p.next()%26)
	}
	return b
}

// step does the same to both, and answers what it was and both errors.
func (p *pick) step(s *store.Store, m *model) (string, api.Errno, api.Errno) {
	switch kind := p.next() % 16; kind {
	case 0, 1:
		name := p.name()
		return fmt.Sprintf("Create(%q)", name), s.Create(name), m.create(name)
	case 2, 3, 4, 5, 6:
		name, at, b := p.name(), p.number(), p.bytes()
		if kind < 5 {
			at, _ = s.Size(name)
		}
		return fmt.Sprintf("Write(%q, %d, %q)", name, at, b), s.Write(name, at, b), m.write(name, at, b)
	case 7:
		name, n := p.name(), p.number()
		return fmt.Sprintf("Cut(%q, %d)", name, n), s.Cut(name, n), m.cut(name, n)
	case 8:
		name := p.name()
		return fmt.Sprintf("Sync(%q)", name), s.Sync(name), m.sync(name)
	case 9, 10:
		name, to := p.name(), p.name()
		return fmt.Sprintf("Rename(%q, %q)", name, to), s.Rename(name, to), m.rename(name, to)
	case 11:
		name := p.name()
		return fmt.Sprintf("Remove(%q)", name), s.Remove(name), m.remove(name)
	case 12:
		keep, torn := p.number(), p.number()
		return fmt.Sprintf("Crash(%d, %d)", keep, torn), s.Crash(keep, torn), m.crash(keep, torn)
	default:
		return "Start()", s.Start(), m.start()
	}
}

// checkSteps holds a store against the model, step by step; clones of both go on from the middle.
func checkSteps(t *testing.T, b []byte) {
	t.Helper()
	p := pick(b)
	room := p.next() % 64
	s, e := store.New(room)
	if e != api.OK {
		t.Fatalf("New(%d): %d", room, e)
	}
	m := newModel(room)
	done := fmt.Sprintf("New(%d)", room)
	var left *store.Store
	leftTells := ""
	for half := len(b) / 2; len(p) > 0; {
		if left == nil && len(p) <= half {
			left, leftTells = s, m.tell()
			s, m = s.Clone(), m.clone()
		}
		ahead := m.tell()
		what, got, want := p.step(s, m)
		done += "\n" + what
		if got != want {
			t.Fatalf("%s = %d, want %d", done, got, want)
		}
		if got, want := tell(t, s), m.tell(); got != want {
			t.Fatalf("%s\nis:   %s\nwant: %s", done, got, want)
		}
		if got != api.OK && tell(t, s) != ahead || s.Left() < 0 {
			t.Fatalf("%s = %d\nis:  %s\nwas: %s", done, got, tell(t, s), ahead)
		}
	}
	if left != nil && tell(t, left) != leftTells {
		t.Fatalf("%s\nwhat was cloned is: %s\nwant: %s", done, tell(t, left), leftTells)
	}
}
