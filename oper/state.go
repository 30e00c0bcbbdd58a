package oper

import (
	"slices"

	"pontoon/api"
)

// Check tells whether s is what o may keep.
func Check(o api.Op, s api.OpState) api.Errno {
	if !turnFits(o, s.Turn) || !keysFit(o, s.Keys) {
		return api.ErrState
	}
	return api.OK
}

func turnFits(o api.Op, turn int) bool {
	if o.Kind == api.OpUnion && turn > 0 {
		return turn < len(o.In)
	}
	return turn == 0
}

func keysFit(o api.Op, keys []api.KeyState) bool {
	if !keeps(o) {
		return len(keys) == 0
	}
	for i, k := range keys {
		if i > 0 && k.Key <= keys[i-1].Key || !countFits(o, k.Count) {
			return false
		}
	}
	return true
}

func countFits(o api.Op, count int64) bool {
	if o.Kind == api.OpWindow {
		return count >= 1 && count < o.Arg
	}
	return count >= 1 && count <= api.MaxNum
}

// Same tells whether a and b are alike in each field; an empty list is like nil.
func Same(a, b api.OpState) bool {
	return a.Turn == b.Turn && slices.Equal(a.Keys, b.Keys)
}

// Clone answers a state like s, in memory of its own.
func Clone(s api.OpState) api.OpState {
	return api.OpState{Keys: slices.Clone(s.Keys), Turn: s.Turn}
}
