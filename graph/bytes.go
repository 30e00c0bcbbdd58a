package graph

import (
	"math"

	"pontoon/api"
	"pontoon/pack"
)

// mostItems is how many operators, or inputs of one, are read at most: Check refuses far fewer.
const mostItems = 1 << 10

// Bytes answers g's form.
func Bytes(g api.Graph) ([]byte, api.Errno) {
	if _, fault := Check(g); fault != api.OK {
		return nil, fault
	}
	l := []int64{int64(g.Parts), int64(len(g.Ops))}
	for _, o := range g.Ops {
		l = append(l, int64(o.Kind), int64(o.Part), int64(o.Fn), o.Arg, int64(len(o.In)))
		for _, e := range o.In {
			l = append(l, int64(e.From), int64(e.Port))
		}
	}
	return pack.Int(nil, l...), api.OK
}

// Parse answers the graph whose form b is.
func Parse(b []byte) (api.Graph, api.Errno) {
	u := pack.Open(b)
	g := api.Graph{Parts: readInt(u)}
	// A list grows as it is read: the number ahead of it may tell of more than there is.
	for left := u.Int(0, mostItems); left > 0 && u.Err() == api.OK; left-- {
		g.Ops = append(g.Ops, readOp(u))
	}
	if fault := u.Close(); fault != api.OK {
		return api.Graph{}, fault
	}
	if _, fault := Check(g); fault != api.OK {
		return api.Graph{}, fault
	}
	return g, api.OK
}

func readOp(u *pack.Unpacker) api.Op {
	o := api.Op{Kind: readInt(u), Part: readInt(u), Fn: readInt(u), Arg: readAny(u)}
	for left := u.Int(0, mostItems); left > 0 && u.Err() == api.OK; left-- {
		o.In = append(o.In, api.Edge{From: readInt(u), Port: readInt(u)})
	}
	return o
}

func readInt(u *pack.Unpacker) int {
	return int(readAny(u))
}

func readAny(u *pack.Unpacker) int64 {
	return u.Int(math.MinInt64, math.MaxInt64)
}
