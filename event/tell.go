package event

import (
	"iter"
	"slices"

	"pontoon/api"
)

// Records goes through the records of these events.
func Records(l ...api.Event) iter.Seq[api.Record] {
	events := known(l)
	return func(yield func(api.Record) bool) {
	telling:
		for e := range events {
			if e.Kind == api.EvRecord && !yield(e.Record) {
				break telling
			}
		}
	}
}

// Upto goes through the records ahead of the first barrier.
func Upto(l ...api.Event) iter.Seq[api.Record] {
	events := known(l)
	return func(yield func(api.Record) bool) {
	telling:
		for e := range events {
			if e.Kind == api.EvBarrier || !yield(e.Record) {
				break telling
			}
		}
	}
}

// Epochs goes through the barriers: each one's Id, and the records between it and the barrier ahead of it; at last 0 and the records behind the last one, if there are any.
func Epochs(l ...api.Event) iter.Seq2[int64, []api.Record] {
	events := known(l)
	return func(yield func(int64, []api.Record) bool) {
		var since []api.Record
		for e := range events {
			if e.Kind == api.EvRecord {
				since = append(since, e.Record)
				continue
			}
			if !yield(e.Id, since) {
				return
			}
			// Whoever got the list may write to it, and behind it.
			since = nil
		}
		if len(since) > 0 {
			yield(0, since)
		}
	}
}

// known goes through those events of l that are records or barriers, whether they may be or not, as they are now.
func known(l []api.Event) iter.Seq[api.Event] {
	// The owner of l may write to it between now and the loop.
	kept := slices.Clone(l)
	return func(yield func(api.Event) bool) {
		for _, e := range kept {
			if (e.Kind == api.EvRecord || e.Kind == api.EvBarrier) && !yield(e) {
				return
			}
		}
	}
}
