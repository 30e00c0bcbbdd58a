package run

import (
	"slices"

	"pontoon/api"
	"pontoon/graph"
	"pontoon/oper"
)

// result is what an operator comes to: what comes out of each of its ports, and what it keeps.
type result struct {
	ports [][]api.Record
	keeps api.TaskState
}

// results answers what each of these first operators of a graph comes to. Of a port whose input is among them nothing is told.
func results(ops []api.Op, prefixes [][]api.Record) []result {
	done := make([]result, len(ops))
	for n, o := range ops {
		if o.Kind == api.OpSource {
			done[n] = result{ports: [][]api.Record{slices.Clone(prefixes[o.Part])}}
			continue
		}
		in := make([][]api.Record, len(o.In))
		for i, e := range o.In {
			// A port leads to one input alone: behind that its records need not stay in memory.
			from := done[e.From].ports
			in[i], from[e.Port] = from[e.Port], nil
		}
		done[n] = resultOf(o, in)
	}
	return done
}

// resultOf answers what o, which is no source, comes to, of what comes in at each of its inputs.
func resultOf(o api.Op, in [][]api.Record) result {
	if o.Kind == api.OpUnion {
		taken, turn, counts := Turns(0, in...)
		keeps := api.TaskState{State: api.OpState{Turn: turn}, Buffers: behind(in, counts)}
		return result{ports: [][]api.Record{taken}, keeps: keeps}
	}
	state, puts := oper.All(o, api.OpState{}, in[0]...)
	return result{ports: byPorts(puts, graph.Ports(o)), keeps: api.TaskState{State: state}}
}

// behind answers what is left of each list behind so many of its records.
func behind(lists [][]api.Record, counts []int) [][]api.Record {
	left := make([][]api.Record, len(lists))
	for i, l := range lists {
		left[i] = slices.Clone(l[counts[i]:])
	}
	return left
}

// byPorts answers the records that go out of each of so many ports, in order.
func byPorts(puts []api.Put, ports int) [][]api.Record {
	out := make([][]api.Record, ports)
	for _, p := range puts {
		out[p.Port] = append(out[p.Port], p.Record)
	}
	return out
}
