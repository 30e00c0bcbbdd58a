package sink

import (
	"cmp"
	"iter"
	"maps"
	"slices"

	"pontoon/api"
)

// Register answers the epoch below which all are fenced off.
func (s *Sink) Register() int64 {
	if !s.made() {
		return 0
	}
	return s.register
}

// Len answers how many records are committed.
func (s *Sink) Len() int64 {
	if !s.made() {
		return 0
	}
	return int64(len(s.out))
}

// Vector answers how many records of each partition have been consumed for what is committed.
func (s *Sink) Vector() []int64 {
	if !s.made() {
		return nil
	}
	return slices.Clone(s.vector)
}

// Read answers n of the committed records, from that place on, or as many as there are.
func (s *Sink) Read(from int64, n int) ([]api.Record, api.Errno) {
	if !s.made() {
		return nil, api.ErrMade
	}
	if from < 0 || from > s.Len() || n < 0 {
		return nil, api.ErrArg
	}
	var l []api.Record
	for _, r := range s.tell(from) {
		if len(l) == n {
			break
		}
		l = append(l, r)
	}
	return l, api.OK
}

// All goes through places from 0 on, and the committed records.
func (s *Sink) All() iter.Seq2[int64, api.Record] {
	return s.tell(0)
}

// tell goes through places from this one on, which is not behind the end, and the committed records.
func (s *Sink) tell(from int64) iter.Seq2[int64, api.Record] {
	var out []api.Record
	if s.made() {
		// What is committed is never written to again: these stay what they are, though more may come behind them.
		out = s.out[from:]
	}
	return func(yield func(int64, api.Record) bool) {
		for i, r := range out {
			if !yield(from+int64(i), r) {
				return
			}
		}
	}
}

// Open answers the names of what is pre-committed, by epochs, then by Id.
func (s *Sink) Open() []api.TxnKey {
	if !s.made() {
		return nil
	}
	return slices.SortedFunc(maps.Keys(s.open), func(a, b api.TxnKey) int {
		return cmp.Or(cmp.Compare(a.Epoch, b.Epoch), cmp.Compare(a.Id, b.Id))
	})
}

// Done tells whether what has this name was committed, and its epoch is the register.
func (s *Sink) Done(k api.TxnKey) bool {
	if !s.made() || k.Epoch != s.register {
		return false
	}
	_, found := slices.BinarySearch(s.done, k.Id)
	return found
}
