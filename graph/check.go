package graph

import (
	"slices"

	"pontoon/api"
)

// ports are the ports from which an input comes: by operators, then by ports.
type ports [api.MaxOps][api.MaxPorts]bool

// Check tells the first fault of g, and at which operator it stands.
func Check(g api.Graph) (int, api.Errno) {
	switch {
	case !within(g.Parts, 1, api.MaxParts):
		return 0, api.ErrArg
	case len(g.Ops) > api.MaxOps:
		return 0, api.ErrLong
	}
	if n, fault := opFault(g); fault != api.OK {
		return n, fault
	}
	if n, loose := looseOp(g.Ops); loose {
		return n, api.ErrLoose
	}
	return 0, endsFault(g)
}

// opFault tells the first operator with a fault, seen with those ahead of it alone.
func opFault(g api.Graph) (int, api.Errno) {
	at, fault := 0, api.OK
	var taken ports
search:
	for n, o := range g.Ops {
		switch {
		case !within(o.Kind, api.OpSource, api.OpSink):
			fault = api.ErrKind
		case !fieldsFit(o, g.Parts):
			fault = api.ErrField
		case !inputsFit(o, g.Ops[:n]):
			fault = api.ErrEdge
		case !taken.take(o.In):
			fault = api.ErrTaken
		default:
			continue search
		}
		at = n
		break search
	}
	return at, fault
}

// fieldsFit tells whether o's fields are as its Kind asks.
func fieldsFit(o api.Op, parts int) bool {
	if o.Kind == api.OpSource {
		return within(o.Part, 0, parts-1) && o.Fn == 0 && o.Arg == 0
	}
	return o.Part == 0 && functionFits(o)
}

// functionFits tells whether o, which is no source, has a function and an argument that its Kind takes.
func functionFits(o api.Op) bool {
	switch o.Kind {
	case api.OpMap:
		return within(o.Fn, api.FnAdd, api.FnXor) && (o.Fn != api.FnNeg || o.Arg == 0)
	case api.OpFilter:
		return within(o.Fn, api.FnLess, api.FnMask) && (o.Fn != api.FnOdd || o.Arg == 0)
	case api.OpKey:
		return keyFits(o.Fn, o.Arg)
	case api.OpFold:
		return within(o.Fn, api.FnSum, api.FnLast) && o.Arg == 0
	case api.OpWindow:
		return within(o.Fn, api.FnSum, api.FnLast) && within(o.Arg, 1, api.MaxCount)
	case api.OpRoute:
		return o.Fn == 0 && within(o.Arg, 2, api.MaxPorts)
	}
	return o.Fn == 0 && o.Arg == 0
}

func keyFits(fn int, arg int64) bool {
	switch fn {
	case api.FnKeep:
		return arg == 0
	case api.FnMod, api.FnVal:
		return arg >= 1
	}
	return fn == api.FnOne
}

// inputsFit tells whether o has as many inputs as it must, each from a port of one of those ahead.
func inputsFit(o api.Op, ahead []api.Op) bool {
	least, most := 1, 1
	switch o.Kind {
	case api.OpSource:
		least, most = 0, 0
	case api.OpUnion:
		least, most = 2, api.MaxPorts
	}
	if !within(len(o.In), least, most) {
		return false
	}
	for _, e := range o.In {
		if !within(e.From, 0, len(ahead)-1) || !within(e.Port, 0, Ports(ahead[e.From])-1) {
			return false
		}
	}
	return true
}

// take notes the ports from which these inputs come, and tells whether each of them was free.
func (p *ports) take(in []api.Edge) bool {
	for _, e := range in {
		if p[e.From][e.Port] {
			return false
		}
		p[e.From][e.Port] = true
	}
	return true
}

// looseOp tells the first operator with a port from which no input comes.
func looseOp(ops []api.Op) (int, bool) {
	// Inputs come from ports that there are, and no two from one: so what is left of an operator's ports is loose.
	var left [api.MaxOps]int
	for n, o := range ops {
		left[n] = Ports(o)
	}
	for _, e := range inputs(ops) {
		left[e.From]--
	}
	n := slices.IndexFunc(left[:], func(count int) bool { return count > 0 })
	return n, n >= 0
}

// endsFault tells whether a partition has not just one source, or there is not just one sink.
func endsFault(g api.Graph) api.Errno {
	var sources [api.MaxParts]int
	sinks := 0
	for _, o := range g.Ops {
		switch o.Kind {
		case api.OpSource:
			sources[o.Part]++
		case api.OpSink:
			sinks++
		}
	}
	for _, count := range sources[:g.Parts] {
		if count != 1 {
			return api.ErrPart
		}
	}
	if sinks != 1 {
		return api.ErrSink
	}
	return api.OK
}
