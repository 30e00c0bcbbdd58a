package oper

import (
	"slices"

	"pontoon/api"
)

// Step answers what o keeps behind r, and what goes out.
func Step(o api.Op, s api.OpState, r api.Record) (api.OpState, []api.Put) {
	if !keeps(o) {
		return Clone(s), pass(nil, o, r)
	}
	at, found := search(s.Keys, r.Key)
	had := api.KeyState{Key: r.Key}
	if found {
		had = s.Keys[at]
	}
	now, stays := next(o, had, r.Val)
	keys := slices.Clone(s.Keys)
	switch {
	case found && stays:
		keys[at] = now
	case found:
		keys = slices.Delete(keys, at, at+1)
	case stays:
		keys = slices.Insert(keys, at, now)
	}
	return api.OpState{Keys: keys, Turn: s.Turn}, tell(nil, o, now, stays)
}

// keeps tells whether o keeps something of each key.
func keeps(o api.Op) bool {
	return o.Kind == api.OpFold || o.Kind == api.OpWindow
}

// search tells where the first one of that key stands, or else, where a new one of it is to stand.
func search(keys []api.KeyState, key int64) (int, bool) {
	at, found := len(keys), false
search:
	for i, k := range keys {
		switch {
		case k.Key == key:
			at, found = i, true
			break search
		case k.Key > key:
			// Keys need not rise: the key may still stand behind a greater one, of which the first one counts.
			at = min(at, i)
		}
	}
	return at, found
}

// next answers what there is of a key behind one more value, and whether it is kept: a window that is full is not.
func next(o api.Op, had api.KeyState, val int64) (api.KeyState, bool) {
	now := api.KeyState{Key: had.Key, Count: api.MaxNum, Acc: Acc(o.Fn, had, val)}
	if had.Count < api.MaxNum {
		now.Count = had.Count + 1
	}
	return now, o.Kind == api.OpFold || now.Count < o.Arg
}

// tell appends what goes out of an OpFold, or of an OpWindow whose window is full.
func tell(out []api.Put, o api.Op, now api.KeyState, stays bool) []api.Put {
	if o.Kind == api.OpWindow && stays {
		return out
	}
	return append(out, api.Put{Record: api.Record{Key: now.Key, Val: now.Acc}})
}

// pass appends what goes out of an operator that keeps nothing.
func pass(out []api.Put, o api.Op, r api.Record) []api.Put {
	switch o.Kind {
	case api.OpSource, api.OpMap, api.OpFilter, api.OpKey, api.OpUnion:
		if Holds(o, r) {
			out = append(out, api.Put{Record: Value(o, r)})
		}
	case api.OpRoute:
		out = append(out, api.Put{Port: int(rest(r.Key, o.Arg)), Record: r})
	}
	return out
}
