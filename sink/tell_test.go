package sink_test

import (
	"math/rand"
	"slices"
	"testing"

	"pontoon/api"
	"pontoon/sink"
)

func TestAbove(t *testing.T) {
	for _, x := range []struct {
		a, b []int64
		want bool
	}{
		{nil, nil, true},
		{nil, []int64{}, true},
		{[]int64{}, nil, true},
		{[]int64{0}, nil, false},
		{nil, []int64{0}, false},
		{[]int64{5}, []int64{}, false},
		{[]int64{-5}, nil, false},
		{[]int64{3}, []int64{2}, true},
		{[]int64{3}, []int64{3}, true},
		{[]int64{3}, []int64{4}, false},
		{[]int64{least}, []int64{most}, false},
		{[]int64{most}, []int64{least}, true},
		{[]int64{least}, []int64{least}, true},
		{[]int64{1, 2}, []int64{1, 1}, true},
		{[]int64{1, 2, 3}, []int64{1, 2, 3}, true},
		{[]int64{0, 9, 9}, []int64{1, 2, 3}, false},
		{[]int64{9, 1, 9}, []int64{1, 2, 3}, false},
		{[]int64{9, 9, 2}, []int64{1, 2, 3}, false},
		{[]int64{1, 2, 3}, []int64{1, 2}, false},
		{[]int64{1, 2}, []int64{1, 2, 0}, false},
		{[]int64{1, 2}, []int64{1, 2, -1}, false},
		{slices.Repeat([]int64{4}, 1000), slices.Repeat([]int64{4}, 1000), true},
		{append(slices.Repeat([]int64{4}, 999), 3), slices.Repeat([]int64{4}, 1000), false},
	} {
		if got := sink.Above(x.a, x.b); got != x.want {
			t.Errorf("Above(%v, %v) = %v", x.a, x.b, got)
		}
	}
}

func TestP154Tells(t *testing.T) {
	for _, p := range []api.Sink{
		{Vector: []int64{0}},
		{Vector: []int64{0, 0, 0, 0}},
		{Fence: end, Vector: []int64{end, 0, end}},
		used(),
		full(),
		{Fence: 1, Out: places(0, maxIn), Vector: []int64{1}, Done: []int64{1, 2, end}},
	} {
		wantStand(t, fromPlain(t, p), p)
	}
}

func TestP154Read(t *testing.T) {
	for _, length := range []int64{0, 1, 6, maxIn} {
		p := api.Sink{Fence: 1, Out: places(0, length), Vector: []int64{0}}
		s := fromPlain(t, p)
		for _, from := range []int64{0, 1, 2, 5, 6, length - 1, length} {
			for _, n := range []int{0, 1, 2, 5, 6, int(length) - 1, int(length), int(length) + 1, 1 << 32, most - 1, most} {
				if from < 0 || from > length || n < 0 {
					continue
				}
				want := places(from, min(length, from+min(int64(n), maxIn)))
				if l, e := s.Read(from, n); e != api.OK || !slices.Equal(l, want) {
					t.Errorf("of %d: Read(%d, %d) = %s, %d", length, from, n, short(l), e)
				}
			}
		}
		for _, from := range []int64{least, least + 1, -1, length + 1, length + 2, 1 << 32, most} {
			for _, n := range []int{-1, 0, 1, most} {
				if l, e := s.Read(from, n); e != api.ErrArg || l != nil {
					t.Errorf("of %d: Read(%d, %d) = %s, %d", length, from, n, short(l), e)
				}
			}
		}
		for _, n := range []int{least, least + 1, -2, -1} {
			for _, from := range []int64{0, length} {
				if l, e := s.Read(from, n); e != api.ErrArg || l != nil {
					t.Errorf("of %d: Read(%d, %d) = %s, %d", length, from, n, short(l), e)
				}
			}
		}
		wantStand(t, s, p)
	}
}

func TestP154AllLeftEarlyAndAgain(t *testing.T) {
	s := fromPlain(t, used())
	seq := s.All()
	for stop := range used().Out {
		var got []api.Record
		for n, r := range seq {
			if n != int64(len(got)) {
				t.Errorf("the place %d behind %d records", n, len(got))
			}
			got = append(got, r)
			if n == int64(stop) {
				break
			}
		}
		if !slices.Equal(got, places(0, int64(stop)+1)) {
			t.Errorf("left at %d: %v", stop, got)
		}
		wantStand(t, s, used())
	}
	for range 2 {
		outer := int64(0)
		for n, r := range seq {
			inner := int64(0)
			for m, x := range seq {
				if m != inner || x != place(m) {
					t.Errorf("within %d: %d and %v", n, m, x)
				}
				inner++
			}
			if n != outer || r != place(n) || inner != 6 {
				t.Errorf("%d and %v, with %d within", n, r, inner)
			}
			outer++
		}
		if outer != 6 {
			t.Errorf("%d records", outer)
		}
	}
}

// TestP154Open: its order is that of Ids, however they came.
func TestP154Open(t *testing.T) {
	r := rand.New(rand.NewSource(154))
	ids := []int64{1, 2, 3, 10, 200, end - 2, end - 1, end}
	for range 200 {
		p := api.Sink{Fence: 2, Vector: []int64{0}}
		s := fromPlain(t, p)
		for _, i := range r.Perm(len(ids)) {
			x := txn(2, ids[i], 0, 2, ids[i])
			p = with(p, x)
			if e := s.Pre(x); e != api.OK {
				t.Fatal(e)
			}
			wantStand(t, s, p)
		}
		if got := s.Open(); len(got) != 8 || got[0] != (api.TxnKey{Epoch: 2, Id: 1}) || got[7] != (api.TxnKey{Epoch: 2, Id: end}) {
			t.Fatal(got)
		}
	}
}

func TestP154Done(t *testing.T) {
	want := func(s *sink.Sink, epoch, id int64, want bool) {
		t.Helper()
		if got := s.Done(api.TxnKey{Epoch: epoch, Id: id}); got != want {
			t.Errorf("Done of %d under %d is %v at the register %d", id, epoch, got, s.Register())
		}
	}
	s := fromPlain(t, used())
	for _, epoch := range []int64{least, -1, 0, 1, 4, 5, 6, end, end + 1, most} {
		for _, id := range []int64{least, -1, 0, 1, 2, 3, 4, 7, 8, 9, 10, end, end + 1, most} {
			want(s, epoch, id, epoch == 5 && (id == 3 || id == 8))
		}
	}
	s.Commit(api.TxnKey{Epoch: 5, Id: 4})
	want(s, 5, 4, true)
	want(s, 5, 9, false)
	// When the register is raised, nothing was committed under it yet.
	s.Fence(6)
	for _, id := range []int64{3, 4, 8, 9} {
		want(s, 5, id, false)
		want(s, 6, id, false)
	}
	fresh, _ := sink.New(1)
	want(fresh, 0, 0, false)
	want(fresh, 0, 1, false)
	want(fresh, 1, 1, false)
}
