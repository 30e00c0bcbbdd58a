package flow_test

import (
	"math/rand"
	"slices"
	"testing"

	"pontoon/api"
	"pontoon/flow"
	"pontoon/graph"
	"pontoon/run"
)

// rooms are those with which flows are tried.
func rooms() []int {
	return []int{1, 2, 3, 7, api.MaxQueue}
}

// driver feeds and steps a flow in whatever order chance says.
type driver struct {
	*testing.T
	*rand.Rand
	g     api.Graph
	flow  *flow.Flow
	lists [][]api.Record // of each partition all its records
	last  int64          // the Id of the barrier that was put last, or that of the state that the flow came from
	snaps []api.FlowState
}

// lists are records for each partition, of different numbers.
func lists(r *rand.Rand, parts, upTo int) [][]api.Record {
	l := make([][]api.Record, parts)
	for part := range l {
		n := r.Intn(upTo + 1)
		l[part] = random(r, 2*n).records(n)
	}
	return l
}

// firsts are the first records of each partition, as many as the vector says.
func firsts(lists [][]api.Record, vector []int64) [][]api.Record {
	var l [][]api.Record
	for part, n := range vector {
		l = append(l, lists[part][:n])
	}
	return l
}

func (d *driver) fedAll() bool {
	for part, n := range d.flow.Fed() {
		if n < int64(len(d.lists[part])) {
			return false
		}
	}
	return true
}

// feed hands over some of the next records of some partition.
func (d *driver) feed() {
	part := d.Intn(d.g.Parts)
	next := d.lists[part][d.flow.Fed()[part]:]
	if e := d.flow.Feed(part, next[:d.Intn(min(len(next), 6)+1)]...); e != api.OK {
		d.Fatalf("Feed: %d", e)
	}
}

// barrier puts one; while another one is on its way, that must be refused.
func (d *driver) barrier() {
	before := d.flow.Passed()
	want := api.OK
	if before < d.last {
		want = api.ErrBarrier
	}
	id := max(d.last, before) + 1 + int64(d.Intn(3))
	if e := d.flow.Barrier(id); e != want {
		d.Fatalf("Barrier(%d) behind %d: %d; want %d", id, before, e, want)
	}
	if want == api.OK {
		d.last = id
	}
}

// step steps that operator; a barrier that comes out of the sink leaves a snap.
func (d *driver) step(op int) bool {
	before := d.flow.Passed()
	can := d.flow.Can(op)
	done := d.flow.Step(op)
	if can != done {
		d.Fatalf("Can(%d) = %v; Step: %v", op, can, done)
	}
	if d.flow.Passed() != before {
		s, ok := d.flow.Snap()
		if !ok || s.Id != d.flow.Passed() || s.Id != d.last {
			d.Fatalf("behind the barrier %d: Snap = %v, %v", d.flow.Passed(), s, ok)
		}
		d.snaps = append(d.snaps, s)
	}
	return done
}

// goOn feeds all, and goes on until nothing can be done.
func (d *driver) goOn() {
	for !d.fedAll() {
		switch d.Intn(12) {
		case 0, 1:
			d.feed()
		case 2:
			d.barrier()
		default:
			for range d.Intn(30) {
				d.step(d.Intn(len(d.g.Ops)))
			}
		}
	}
	d.finish()
}

// finish steps in whatever order, until nothing can be done.
func (d *driver) finish() {
	for {
		var can []int
		for op := range d.g.Ops {
			if d.flow.Can(op) {
				can = append(can, op)
			}
		}
		if len(can) == 0 {
			return
		}
		if op := can[d.Intn(len(can))]; !d.step(op) {
			d.Fatalf("Step(%d) did nothing", op)
		}
	}
}

// checkSnaps holds the snap of each barrier that was passed against run of the records ahead of it.
func (d *driver) checkSnaps() {
	d.Helper()
	for _, s := range d.snaps {
		prefixes := firsts(d.lists, s.Vector)
		out, e := run.Run(d.g, prefixes...)
		if e != api.OK || int64(len(out)) != s.Out {
			d.Fatalf("%v: %v has Out %d; run tells %d records, %d", d.g, s, s.Out, len(out), e)
		}
		states, e := run.States(d.g, prefixes...)
		if e != api.OK || !slices.EqualFunc(s.Tasks, states, sameTask) {
			d.Fatalf("%v: %v; run tells %v", d.g, s.Tasks, states)
		}
	}
}

// checkOut holds what came out, from the base on, against run of all that was fed.
func (d *driver) checkOut() {
	d.Helper()
	want, e := run.Run(d.g, d.lists...)
	if e != api.OK || d.flow.Count() != int64(len(want)) {
		d.Fatalf("%v of %v: Count %d; run tells %d records, %d", d.g, d.lists, d.flow.Count(), len(want), e)
	}
	places, records := told(d.flow.Out(0))
	if !slices.Equal(records, want[d.flow.Base():]) {
		d.Fatalf("%v of %v: %v came out; want %v from %d on", d.g, d.lists, records, want, d.flow.Base())
	}
	if len(places) > 0 && places[0] != d.flow.Base() {
		d.Fatalf("the places are %v, the base is %d", places, d.flow.Base())
	}
}

// checkDone: nothing waits, and each barrier was passed.
func (d *driver) checkDone() {
	d.Helper()
	if d.flow.Passed() != d.last {
		d.Fatalf("Passed %d; the last barrier is %d", d.flow.Passed(), d.last)
	}
	c := d.flow.Clone()
	if n := c.Drain(); n != 0 {
		d.Fatalf("%d steps were left", n)
	}
	count := c.Count()
	if e := c.Barrier(d.last + 1); e != api.OK {
		d.Fatalf("one more barrier: %d", e)
	}
	// A barrier that comes to inputs at which nothing waits costs one step of each operator, and lets nothing out.
	if n := c.Drain(); n != len(d.g.Ops) || c.Passed() != d.last+1 || c.Count() != count {
		d.Fatalf("one more barrier: %d steps of %d operators, Passed %d, Count %d, was %d", n, len(d.g.Ops), c.Passed(), c.Count(), count)
	}
	for part := range d.g.Parts {
		if e := c.Feed(part, make([]api.Record, api.MaxFeed)...); e != api.OK {
			d.Fatalf("something waits ahead of the partition %d: %d", part, e)
		}
	}
}

func newDriver(t *testing.T, r *rand.Rand, g api.Graph, room int, l [][]api.Record) *driver {
	t.Helper()
	f, e := flow.New(g, room)
	if e != api.OK {
		t.Fatal(g, room, e)
	}
	return &driver{T: t, Rand: r, g: g, flow: f, lists: l}
}

// graphs tells graphs of all kinds.
func graphs(t *testing.T, r *rand.Rand, n int) []api.Graph {
	all := []api.Graph{short(), two(), wide()}
	for range n {
		g := random(r, 120).graph()
		if op, e := graph.Check(g); e != api.OK {
			t.Fatalf("%v should be taken: %d, %d", g, op, e)
		}
		all = append(all, g)
	}
	return all
}

// TestP115WhoeverComesFirst: steps in whatever order, with whatever room, come to what run tells; barriers on the way change nothing.
func TestP115WhoeverComesFirst(t *testing.T) {
	r := rand.New(rand.NewSource(115))
	kinds := map[int]int{}
	for _, g := range graphs(t, r, 200) {
		for _, o := range g.Ops {
			kinds[o.Kind]++
		}
		l := lists(r, g.Parts, 40)
		for _, room := range rooms() {
			d := newDriver(t, r, g, room, l)
			d.goOn()
			d.checkOut()
			d.checkDone()
		}
	}
	if len(kinds) != 9 {
		t.Errorf("only the Kinds %v", kinds)
	}
}

// TestP115Orders: the first one that can, the last one that can, one as long as it can, all fed first.
func TestP115Orders(t *testing.T) {
	r := rand.New(rand.NewSource(1150))
	for _, g := range graphs(t, r, 60) {
		l := lists(r, g.Parts, 60)
		for _, room := range rooms() {
			orders := []func(*driver){
				func(d *driver) { d.flow.Drain() },
				func(d *driver) {
					for d.stepFirst() {
						continue
					}
				},
				func(d *driver) {
					for d.stepLast() {
						continue
					}
				},
				func(d *driver) {
					for op := 0; d.stepFirst(); op = (op + 1) % len(g.Ops) {
						for d.step(op) {
							continue
						}
					}
				},
			}
			for _, order := range orders {
				d := newDriver(t, r, g, room, l)
				for part, records := range l {
					if e := d.flow.Feed(part, records...); e != api.OK {
						t.Fatal("Feed", e)
					}
				}
				order(d)
				d.checkOut()
				d.checkDone()
			}
		}
	}
}

func (d *driver) stepFirst() bool {
	for op := range d.g.Ops {
		if d.step(op) {
			return true
		}
	}
	return false
}

func (d *driver) stepLast() bool {
	for op := len(d.g.Ops) - 1; op >= 0; op-- {
		if d.step(op) {
			return true
		}
	}
	return false
}

// TestP115Grows: what has come out at any time is a beginning of what run tells of all that was fed.
func TestP115Grows(t *testing.T) {
	r := rand.New(rand.NewSource(1151))
	for _, g := range graphs(t, r, 40) {
		d := newDriver(t, r, g, 1+r.Intn(4), lists(r, g.Parts, 30))
		for !d.fedAll() {
			d.feed()
			for range r.Intn(40) {
				d.step(r.Intn(len(g.Ops)))
			}
			want, _ := run.Run(g, firsts(d.lists, d.flow.Fed())...)
			_, got := told(d.flow.Out(0))
			if len(got) > len(want) || !slices.Equal(got, want[:len(got)]) {
				t.Fatalf("%v: %v came out; run tells %v", g, got, want)
			}
		}
	}
}

// TestP116BarrierIsACut: what Snap tells is what run tells of the first records, as many as its vector says.
func TestP116BarrierIsACut(t *testing.T) {
	r := rand.New(rand.NewSource(116))
	cuts, within := 0, 0
	for _, g := range graphs(t, r, 200) {
		for _, room := range rooms() {
			d := newDriver(t, r, g, room, lists(r, g.Parts, 50))
			d.barrier()
			d.goOn()
			d.checkSnaps()
			cuts += len(d.snaps)
			for _, s := range d.snaps {
				if !slices.Equal(s.Vector, d.flow.Fed()) && !slices.Equal(s.Vector, make([]int64, g.Parts)) {
					within++
				}
			}
		}
	}
	if cuts < 2000 || within < 1500 {
		t.Errorf("%d barriers, %d of them within the records: too few", cuts, within)
	}
}

// TestP117ItGoesOn: a flow of a snap, with other room, that is fed what was behind its vector, comes to the same records, place by place; and so does a flow of its snaps.
func TestP117ItGoesOn(t *testing.T) {
	r := rand.New(rand.NewSource(117))
	again := 0
	for _, g := range graphs(t, r, 200) {
		d := newDriver(t, r, g, 1+r.Intn(api.MaxQueue), lists(r, g.Parts, 60))
		d.goOn()
		for deep := 0; len(d.snaps) > 0 && deep < 4; deep++ {
			s := d.snaps[r.Intn(len(d.snaps))]
			f, e := flow.From(g, rooms()[r.Intn(5)], s)
			if e != api.OK {
				t.Fatalf("From(%v): %d", s, e)
			}
			if f.Base() != s.Out || f.Passed() != s.Id || !slices.Equal(f.Fed(), s.Vector) {
				t.Fatalf("From(%v): Base %d, Passed %d, Fed %v", s, f.Base(), f.Passed(), f.Fed())
			}
			d = &driver{T: t, Rand: r, g: g, flow: f, lists: d.lists, last: s.Id}
			d.goOn()
			d.checkOut()
			d.checkSnaps()
			d.checkDone()
			again++
		}
	}
	if again < 300 {
		t.Errorf("%d flows of a snap: too few", again)
	}
}

// TestP118NeverStuck: with the least room, records at some partitions alone, and barriers as often as may be, each ends with nothing that waits.
func TestP118NeverStuck(t *testing.T) {
	r := rand.New(rand.NewSource(118))
	for _, g := range graphs(t, r, 200) {
		for only := range g.Parts {
			l := lists(r, g.Parts, 0)
			l[only] = random(r, 600).records(300)
			d := newDriver(t, r, g, 1, l)
			for !d.fedAll() {
				d.feed()
				if d.flow.Passed() == d.last {
					d.barrier()
				}
				for range r.Intn(2 * len(g.Ops)) {
					d.step(r.Intn(len(g.Ops)))
				}
			}
			d.finish()
			d.checkOut()
			d.checkSnaps()
			d.checkDone()
		}
	}
}
