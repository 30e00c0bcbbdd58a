package snap

import (
	"math"

	"pontoon/api"
	"pontoon/pack"
)

// reader reads a state's form from the left. With an error of its unpacker it reads no more, and what it answers is of no use.
type reader struct {
	*pack.Unpacker
}

// list reads how many there are, and each of them by one.
func list[T any](r reader, one func(reader) T) []T {
	// It grows as it is read: the number ahead of it may tell of more than there is.
	var l []T
items:
	for left := r.Int(0, api.MaxSnap); left > 0; left-- {
		switch x := one(r); r.Err() {
		case api.OK:
			l = append(l, x)
		default:
			break items
		}
	}
	return l
}

func (r reader) number() int64 {
	return r.Int(math.MinInt64, math.MaxInt64)
}

// state names its fields in the form's order, and so do those below it: they are read as they stand there.
func (r reader) state() api.FlowState {
	return api.FlowState{
		Id:     r.number(),
		Vector: list(r, reader.number),
		Out:    r.number(),
		Tasks:  list(r, reader.task),
	}
}

func (r reader) task() api.TaskState {
	return api.TaskState{
		State:   api.OpState{Turn: int(r.number()), Keys: list(r, reader.key)},
		Buffers: list(r, reader.buffer),
	}
}

func (r reader) key() api.KeyState {
	return api.KeyState{Key: r.number(), Count: r.number(), Acc: r.number()}
}

func (r reader) buffer() []api.Record {
	return list(r, reader.record)
}

func (r reader) record() api.Record {
	return api.Record{Key: r.number(), Val: r.number()}
}
