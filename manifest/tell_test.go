package manifest_test

import (
	"math/rand"
	"reflect"
	"slices"
	"testing"

	"pontoon/api"
	"pontoon/manifest"
	"pontoon/sink"
)

func key(epoch, id int64) api.TxnKey {
	return api.TxnKey{Epoch: epoch, Id: id}
}

func TestP174Txn(t *testing.T) {
	want := api.Txn{Epoch: 9, Id: 400, Begin: 7, Records: []api.Record{rec(1, -1), rec(most, least), rec(64, -65)}, Vector: []int64{5, 70}}
	if x := manifest.Txn(base(), 9); !reflect.DeepEqual(x, want) {
		t.Errorf("Txn = %+v; want %+v", x, want)
	}
	// Of any epoch, and of a manifest that may not be.
	for _, epoch := range []int64{3, 0, -1, 1, end, end + 1, most, least} {
		for _, m := range append(badManifests(), goodManifests()...) {
			x := manifest.Txn(m, epoch)
			if x.Epoch != epoch || x.Id != m.Id || x.Begin != m.Begin || !slices.Equal(x.Records, m.Records) || !slices.Equal(x.Vector, m.Vector) {
				t.Errorf("Txn(%v, %d) = %+v", brief(m), epoch, x)
			}
		}
	}
	if x := manifest.Txn(api.Manifest{}, 0); !reflect.DeepEqual(x, api.Txn{}) {
		t.Errorf("Txn of nothing = %+v", x)
	}
}

// TestP174TxnAtASink: what is made of a manifest is committed as one.
func TestP174TxnAtASink(t *testing.T) {
	s, e := sink.New(1)
	if e != api.OK {
		t.Fatal(e)
	}
	state := at(short(), 1, 3)
	state.Vector[0] = 3
	m, _ := wantMade(t, short(), 2, state, 0, count(3), 4)
	x := manifest.Txn(m, 5)
	if e, h := s.Pre(x), s.Commit(key(5, 1)); e != api.OK || h != api.OK || s.Len() != 3 || s.Register() != 5 || !slices.Equal(s.Vector(), []int64{3}) {
		t.Errorf("Pre %d, Commit %d: %+v", e, h, s.Plain())
	}
}

func TestP174Key(t *testing.T) {
	if k := manifest.Key(base()); k != key(3, 400) {
		t.Errorf("Key = %v", k)
	}
	for _, m := range append(badManifests(), goodManifests()...) {
		if k := manifest.Key(m); k != key(m.Epoch, m.Id) {
			t.Errorf("Key(%v) = %v", brief(m), k)
		}
	}
}

func wantLess(t *testing.T, a, b api.TxnKey, want bool) {
	t.Helper()
	if got := manifest.Less(a, b); got != want {
		t.Errorf("Less(%v, %v) = %v", a, b, got)
	}
}

func TestP174Less(t *testing.T) {
	wantLess(t, key(1, 1), key(1, 1), false)
	wantLess(t, key(0, 0), key(0, 0), false)
	wantLess(t, key(1, 1), key(1, 2), true)
	wantLess(t, key(1, 2), key(1, 1), false)
	wantLess(t, key(1, 1), key(2, 1), true)
	wantLess(t, key(2, 1), key(1, 1), false)
	// The epoch comes first.
	wantLess(t, key(1, 9), key(2, 1), true)
	wantLess(t, key(2, 1), key(1, 9), false)
	wantLess(t, key(1, most), key(2, least), true)
	wantLess(t, key(2, least), key(1, most), false)
	wantLess(t, key(least, most), key(most, least), true)
	wantLess(t, key(most, least), key(least, most), false)
	// Numbers whose difference would wrap round.
	wantLess(t, key(5, least), key(5, most), true)
	wantLess(t, key(5, most), key(5, least), false)
	wantLess(t, key(least, 5), key(most, 5), true)
	wantLess(t, key(most, 5), key(least, 5), false)
}

// TestP174LessIsAnOrder: of two different names just one is less; and it is the order of the pairs.
func TestP174LessIsAnOrder(t *testing.T) {
	numbers := []int64{least, -1, 0, 1, 2, end - 1, end, most}
	var rising []api.TxnKey
	for _, epoch := range numbers {
		for _, id := range numbers {
			rising = append(rising, key(epoch, id))
		}
	}
	for i, a := range rising {
		for j, b := range rising {
			wantLess(t, a, b, i < j)
		}
	}
}

func wantSame(t *testing.T, a, b api.Manifest, want bool) {
	t.Helper()
	if manifest.Same(a, b) != want || manifest.Same(b, a) != want {
		t.Errorf("Same(%v, %v) = %v, and the other way round %v; want %v", brief(a), brief(b), manifest.Same(a, b), manifest.Same(b, a), want)
	}
}

// changes are what makes another manifest of base, each of one field.
func changes() []func(m *api.Manifest) {
	l := []func(m *api.Manifest){
		func(m *api.Manifest) { m.Epoch++ },
		func(m *api.Manifest) { m.Epoch = -m.Epoch },
		func(m *api.Manifest) { m.Epoch += 1 << 32 },
		func(m *api.Manifest) { m.Id-- },
		func(m *api.Manifest) { m.Id += 1 << 32 },
		func(m *api.Manifest) { m.Epoch, m.Id = m.Id, m.Epoch },
		func(m *api.Manifest) { m.Out++ },
		func(m *api.Manifest) { m.Out += 1 << 32 },
		func(m *api.Manifest) { m.Begin-- },
		func(m *api.Manifest) { m.Begin += 1 << 32 },
		func(m *api.Manifest) { m.Out, m.Begin = m.Begin, m.Out },
		func(m *api.Manifest) { m.Graph++ },
		func(m *api.Manifest) { m.Graph ^= 1 << 31 },
		func(m *api.Manifest) { m.Vector = nil },
		func(m *api.Manifest) { m.Vector = m.Vector[:1] },
		func(m *api.Manifest) { m.Vector = append(m.Vector, 0) },
		func(m *api.Manifest) { slices.Reverse(m.Vector) },
		func(m *api.Manifest) { m.Records = nil },
		func(m *api.Manifest) { m.Records = append(m.Records, api.Record{}) },
		func(m *api.Manifest) { slices.Reverse(m.Records) },
		func(m *api.Manifest) { m.Pieces = nil },
		func(m *api.Manifest) { m.Pieces = append(m.Pieces, api.Piece{}) },
		func(m *api.Manifest) { slices.Reverse(m.Pieces) },
	}
	for i := range base().Vector {
		l = append(l, func(m *api.Manifest) { m.Vector[i] ^= 1 }, func(m *api.Manifest) { m.Vector[i] += 1 << 32 })
	}
	for i := range base().Records {
		l = append(l, func(m *api.Manifest) { m.Records[i].Key ^= 1 }, func(m *api.Manifest) { m.Records[i].Val ^= 1 << 40 }, func(m *api.Manifest) { m.Records = m.Records[:i] })
	}
	for i := range base().Pieces {
		l = append(l, func(m *api.Manifest) { m.Pieces[i].Len ^= 1 }, func(m *api.Manifest) { m.Pieces[i].Sum ^= 1 << 31 }, func(m *api.Manifest) { m.Pieces = m.Pieces[:i] })
	}
	return l
}

func TestP174Same(t *testing.T) {
	wantSame(t, base(), base(), true)
	wantSame(t, api.Manifest{}, api.Manifest{}, true)
	wantSame(t, base(), api.Manifest{}, false)
	for _, change := range changes() {
		m := but(change)
		wantSame(t, m, base(), false)
		wantSame(t, m, copyOf(m), true)
	}
	// Those that may not be are held against each other, too.
	all := append(badManifests(), goodManifests()...)
	r := rand.New(rand.NewSource(7))
	for _, m := range all {
		wantSame(t, m, copyOf(m), true)
		other := all[r.Intn(len(all))]
		wantSame(t, m, other, alike(m, other))
	}
}

// TestR4Same: empty and nil lists are the same, each in turn.
func TestR4Same(t *testing.T) {
	empty := api.Manifest{Vector: []int64{}, Records: []api.Record{}, Pieces: []api.Piece{}}
	wantSame(t, api.Manifest{}, empty, true)
	wantSame(t, api.Manifest{Vector: []int64{}}, api.Manifest{Vector: make([]int64, 0, 9)}, true)
	wantSame(t, but(func(m *api.Manifest) { m.Vector = nil }), but(func(m *api.Manifest) { m.Vector = []int64{} }), true)
	wantSame(t, but(func(m *api.Manifest) { m.Records = nil }), but(func(m *api.Manifest) { m.Records = m.Records[:0] }), true)
	wantSame(t, but(func(m *api.Manifest) { m.Pieces = nil }), but(func(m *api.Manifest) { m.Pieces = m.Pieces[:0] }), true)
	// A list with a zero in it is not empty.
	wantSame(t, empty, api.Manifest{Vector: []int64{0}}, false)
	wantSame(t, empty, api.Manifest{Records: []api.Record{{}}}, false)
	wantSame(t, empty, api.Manifest{Pieces: []api.Piece{{}}}, false)
}

func TestP174Clone(t *testing.T) {
	for _, m := range append(badManifests(), goodManifests()...) {
		c := manifest.Clone(m)
		if !alike(c, m) {
			t.Errorf("Clone(%v) = %v", brief(m), brief(c))
		}
		wantSame(t, c, m, true)
	}
	if c := manifest.Clone(base()); !reflect.DeepEqual(c, base()) {
		t.Errorf("Clone = %+v", c)
	}
	if c := manifest.Clone(api.Manifest{}); !reflect.DeepEqual(c, api.Manifest{}) {
		t.Errorf("Clone of nothing = %+v", c)
	}
}

// TestP174CloneGoesItsOwnWay: what is changed in the one is not seen in the other one.
func TestP174CloneGoesItsOwnWay(t *testing.T) {
	for _, change := range changes() {
		m := base()
		c := manifest.Clone(m)
		change(&m)
		if !alike(c, base()) {
			t.Errorf("the clone is %v now", c)
		}
		m = base()
		c = manifest.Clone(m)
		change(&c)
		if !alike(m, base()) {
			t.Errorf("what was cloned is %v now", m)
		}
	}
}
