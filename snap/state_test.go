package snap_test

import (
	"slices"
	"testing"

	"pontoon/api"
	"pontoon/snap"
)

func wantSame(t *testing.T, a, b api.FlowState, want bool) {
	t.Helper()
	if snap.Same(a, b) != want || snap.Same(b, a) != want {
		t.Errorf("Same(%v, %v) = %v, and the other way round %v; want %v", a, b, snap.Same(a, b), snap.Same(b, a), want)
	}
}

// changes are what makes another state of full, each of one field.
func changes() []func(s *api.FlowState) {
	l := []func(s *api.FlowState){
		func(s *api.FlowState) { s.Id-- },
		func(s *api.FlowState) { s.Id = -s.Id },
		func(s *api.FlowState) { s.Out++ },
		func(s *api.FlowState) { s.Id, s.Out = s.Out, s.Id },
		func(s *api.FlowState) { s.Vector[0]++ },
		func(s *api.FlowState) { s.Vector[1]++ },
		func(s *api.FlowState) { slices.Reverse(s.Vector) },
		func(s *api.FlowState) { s.Vector = s.Vector[:1] },
		func(s *api.FlowState) { s.Vector = append(s.Vector, 0) },
		func(s *api.FlowState) { s.Vector = nil },
		func(s *api.FlowState) { s.Tasks = s.Tasks[:9] },
		func(s *api.FlowState) { s.Tasks = append(s.Tasks, api.TaskState{}) },
		func(s *api.FlowState) { s.Tasks = nil },
		func(s *api.FlowState) { slices.Reverse(s.Tasks) },
		func(s *api.FlowState) { slices.Reverse(s.Tasks[5].Buffers) },
		func(s *api.FlowState) { s.Tasks[5].Buffers = s.Tasks[5].Buffers[:3] },
		func(s *api.FlowState) { s.Tasks[5].Buffers = append(s.Tasks[5].Buffers, nil) },
		func(s *api.FlowState) { s.Tasks[5].Buffers = nil },
		func(s *api.FlowState) { s.Tasks[5].Buffers[1] = []api.Record{{}} },
		func(s *api.FlowState) { s.Tasks[5].Buffers[2] = s.Tasks[5].Buffers[2][:2] },
		func(s *api.FlowState) { s.Tasks[5].Buffers[3] = nil },
		func(s *api.FlowState) { slices.Reverse(s.Tasks[5].Buffers[0]) },
		func(s *api.FlowState) { slices.Reverse(s.Tasks[8].State.Keys) },
	}
	for n := range full().Tasks {
		l = append(l,
			func(s *api.FlowState) { s.Tasks[n].State.Turn++ },
			func(s *api.FlowState) { s.Tasks[n].State.Turn -= 1 << 32 },
			func(s *api.FlowState) { s.Tasks[n].State.Keys = append(s.Tasks[n].State.Keys, api.KeyState{}) },
			func(s *api.FlowState) { s.Tasks[n].Buffers = append([][]api.Record{nil}, s.Tasks[n].Buffers...) },
		)
		for i := range full().Tasks[n].State.Keys {
			l = append(l,
				func(s *api.FlowState) { s.Tasks[n].State.Keys[i].Key ^= 1 },
				func(s *api.FlowState) { s.Tasks[n].State.Keys[i].Count ^= 1 },
				func(s *api.FlowState) { s.Tasks[n].State.Keys[i].Acc ^= 1 },
				func(s *api.FlowState) { s.Tasks[n].State.Keys = s.Tasks[n].State.Keys[:i] },
			)
		}
		for i, records := range full().Tasks[n].Buffers {
			for j := range records {
				l = append(l,
					func(s *api.FlowState) { s.Tasks[n].Buffers[i][j].Key ^= 1 },
					func(s *api.FlowState) { s.Tasks[n].Buffers[i][j].Val ^= 1 },
				)
			}
		}
	}
	return l
}

func TestP122Same(t *testing.T) {
	wantSame(t, full(), full(), true)
	wantSame(t, api.FlowState{}, api.FlowState{}, true)
	wantSame(t, full(), api.FlowState{}, false)
	for _, change := range changes() {
		s := full()
		change(&s)
		wantSame(t, s, full(), false)
		wantSame(t, s, copyOf(s), true)
	}
	// States that are none of any graph are held against each other, too.
	for _, s := range badStates() {
		wantSame(t, s, full(), false)
		wantSame(t, s, copyOf(s), true)
	}
}

// TestR4Same: empty and nil lists are the same, each in turn.
func TestR4Same(t *testing.T) {
	empty := func() api.FlowState {
		return api.FlowState{Vector: []int64{}, Tasks: []api.TaskState{}}
	}
	wantSame(t, api.FlowState{}, empty(), true)
	wantSame(t, api.FlowState{Tasks: []api.TaskState{{}}}, api.FlowState{Tasks: []api.TaskState{{State: api.OpState{Keys: []api.KeyState{}}}}}, true)
	wantSame(t, api.FlowState{Tasks: []api.TaskState{{}}}, api.FlowState{Tasks: []api.TaskState{{Buffers: [][]api.Record{}}}}, true)
	one := func(l []api.Record) api.FlowState {
		return api.FlowState{Tasks: []api.TaskState{{Buffers: [][]api.Record{l}}}}
	}
	wantSame(t, one(nil), one([]api.Record{}), true)
	wantSame(t, one(nil), one(make([]api.Record, 0, 5)), true)
	// A list with an empty one in it is not empty.
	wantSame(t, one(nil), api.FlowState{Tasks: []api.TaskState{{}}}, false)
	wantSame(t, api.FlowState{Tasks: []api.TaskState{{}}}, api.FlowState{}, false)
	wantSame(t, api.FlowState{Vector: []int64{0}}, api.FlowState{}, false)
}

func TestP122Clone(t *testing.T) {
	all := append(badStates(), full(), api.FlowState{}, nothing(wide()), nothing(short()), keysOf(500), recordsOf(500))
	for _, s := range all {
		c := snap.Clone(s)
		if !alike(c, s) {
			t.Errorf("Clone(%v) = %v", s, c)
		}
		wantSame(t, c, s, true)
	}
}

// TestP122CloneGoesItsOwnWay: what is changed in the one is not seen in the other one.
func TestP122CloneGoesItsOwnWay(t *testing.T) {
	for _, change := range changes() {
		s := full()
		c := snap.Clone(s)
		change(&s)
		if !alike(c, full()) {
			t.Errorf("the clone is %v now", c)
		}
		s = full()
		c = snap.Clone(s)
		change(&c)
		if !alike(s, full()) {
			t.Errorf("what was cloned is %v now", s)
		}
	}
	s := full()
	c, d := snap.Clone(s), snap.Clone(s)
	scribble(s)
	if !alike(c, full()) {
		t.Errorf("the clone is %v now", c)
	}
	scribble(c)
	if !alike(d, full()) {
		t.Errorf("another clone is %v now", d)
	}
}
