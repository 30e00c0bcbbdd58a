package oper

import (
	"cmp"
	"slices"

	"pontoon/api"
)

// ledger is what an operator keeps, while many records go through it; a record costs it a few steps, however many keys there are.
//
// What was there at the beginning is old, and never changes its order. What is new stands ahead of the first one with a greater key, hence behind lesser ones alone: so all that is new rises, one behind the other, and of each it is enough to know its gap, which is the place of the old one ahead of which it stands (or len(old): behind all of them). An old one that goes leaves its gap behind: keys need not rise, so that lesser ones may stand there.
type ledger struct {
	old     []api.KeyState
	gone    []bool // which ones of old are no more
	twins   []int  // for each of old the next one of its key, or len(old)
	left    peaks  // the keys of old, but of those that are gone
	entries []entry
	fresh   peaks // the keys of entries that have something new
}

// entry is what a ledger knows of a key that comes up; entries rise by keys.
type entry struct {
	first int          // the first old one that is not gone, or len(old)
	state api.KeyState // the new one, where there is no old one; its Count is 0, if there is none
	gap   int          // where the new one stands
}

// open answers a ledger of what is kept, ready for these records.
func open(kept []api.KeyState, l []api.Record) *ledger {
	b := &ledger{
		old:     slices.Clone(kept),
		gone:    make([]bool, len(kept)),
		twins:   make([]int, len(kept)),
		left:    newPeaks(len(kept)),
		entries: entriesOf(l, len(kept)),
	}
	b.fresh = newPeaks(len(b.entries))
	// From the last one on: each one finds the next one of its key in its entry.
	for i := len(kept) - 1; i >= 0; i-- {
		b.left.set(i, kept[i].Key)
		if k, found := place(b.entries, kept[i].Key); found {
			b.twins[i] = b.entries[k].first
			b.entries[k].first = i
		}
	}
	return b
}

// entriesOf answers an entry for each key of these records.
func entriesOf(l []api.Record, none int) []entry {
	keys := make([]int64, len(l))
	for i, r := range l {
		keys[i] = r.Key
	}
	slices.Sort(keys)
	keys = slices.Compact(keys)
	entries := make([]entry, len(keys))
	for i, key := range keys {
		entries[i] = entry{first: none, state: api.KeyState{Key: key}}
	}
	return entries
}

func place(entries []entry, key int64) (int, bool) {
	return slices.BinarySearchFunc(entries, key, func(e entry, key int64) int { return cmp.Compare(e.state.Key, key) })
}

// entry tells which one is that key's, of which a record has come.
func (b *ledger) entry(key int64) int {
	k, _ := place(b.entries, key)
	return k
}

// had answers the first KeyState of the key of entry k, or one with the Count 0.
func (b *ledger) had(k int) api.KeyState {
	if i := b.entries[k].first; i < len(b.old) {
		return b.old[i]
	}
	return b.entries[k].state
}

// keep puts now in the place of what had answers.
func (b *ledger) keep(k int, now api.KeyState) {
	e := &b.entries[k]
	if e.first < len(b.old) {
		b.old[e.first] = now
		return
	}
	if e.state.Count == 0 {
		e.gap = b.gap(now.Key)
		b.fresh.set(k, now.Key)
	}
	e.state = now
}

// drop takes away what had answers, if it is there.
func (b *ledger) drop(k int) {
	e := &b.entries[k]
	if e.first < len(b.old) {
		b.gone[e.first] = true
		b.left.set(e.first, lowest)
		e.first = b.twins[e.first]
		return
	}
	e.state = api.KeyState{Key: e.state.Key}
	b.fresh.set(k, lowest)
}

// gap tells where a new one of that key is to stand: ahead of the first greater one, be that old or new.
func (b *ledger) gap(key int64) int {
	gap := len(b.old)
	if i, found := b.left.first(key); found {
		gap = i
	}
	if k, found := b.fresh.first(key); found {
		gap = min(gap, b.entries[k].gap)
	}
	return gap
}

// list answers all that is kept, in order; the ledger is used up by it.
func (b *ledger) list() []api.KeyState {
	var out []api.KeyState
	fresh := slices.DeleteFunc(b.entries, func(e entry) bool { return e.state.Count == 0 })
	for i, k := range b.old {
		for len(fresh) > 0 && fresh[0].gap == i {
			out = append(out, fresh[0].state)
			fresh = fresh[1:]
		}
		if !b.gone[i] {
			out = append(out, k)
		}
	}
	for _, e := range fresh {
		out = append(out, e.state)
	}
	return out
}
