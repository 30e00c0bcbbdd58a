package oper

import "pontoon/api"

// All answers what Step of each of these records comes to, one behind the other.
func All(o api.Op, s api.OpState, l ...api.Record) (api.OpState, []api.Put) {
	var out []api.Put
	if !keeps(o) {
		for _, r := range l {
			out = pass(out, o, r)
		}
		return Clone(s), out
	}
	// Step copies all that is kept: done for each record, that would take the square of the time.
	kept := open(s.Keys, l)
	for _, r := range l {
		e := kept.entry(r.Key)
		now, stays := next(o, kept.had(e), r.Val)
		if stays {
			kept.keep(e, now)
		} else {
			kept.drop(e)
		}
		out = tell(out, o, now, stays)
	}
	return api.OpState{Keys: kept.list(), Turn: s.Turn}, out
}
