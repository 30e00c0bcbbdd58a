package snap

import (
	"slices"

	"pontoon/api"
)

// Same tells whether a and b are alike in each field; an empty list is like nil.
func Same(a, b api.FlowState) bool {
	return a.Id == b.Id && a.Out == b.Out && slices.Equal(a.Vector, b.Vector) && slices.EqualFunc(a.Tasks, b.Tasks, sameTask)
}

func sameTask(a, b api.TaskState) bool {
	return a.State.Turn == b.State.Turn && slices.Equal(a.State.Keys, b.State.Keys) && slices.EqualFunc(a.Buffers, b.Buffers, slices.Equal[[]api.Record])
}

// Clone answers a state like s, in memory of its own.
func Clone(s api.FlowState) api.FlowState {
	c := api.FlowState{Id: s.Id, Vector: copied(s.Vector), Out: s.Out}
	for _, t := range s.Tasks {
		c.Tasks = append(c.Tasks, cloneTask(t))
	}
	return c
}

func cloneTask(t api.TaskState) api.TaskState {
	c := api.TaskState{State: api.OpState{Keys: copied(t.State.Keys), Turn: t.State.Turn}}
	for _, records := range t.Buffers {
		c.Buffers = append(c.Buffers, copied(records))
	}
	return c
}

// copied is l in memory of its own. (Of none slices.Clone would answer a piece of the old memory, which would stay for it.)
func copied[T any](l []T) []T {
	return append([]T(nil), l...)
}
