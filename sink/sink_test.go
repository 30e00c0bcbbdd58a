package sink_test

import (
	"fmt"
	"reflect"
	"slices"
	"testing"

	"pontoon/api"
	"pontoon/sink"
)

// place is the record that comes out at that place, unless a test says otherwise; no two are alike.
func place(n int64) api.Record {
	return api.Record{Key: n % 5, Val: 10 * n}
}

// places are the records from one place on, up to another one.
func places(from, to int64) []api.Record {
	var l []api.Record
	for n := from; n < to; n++ {
		l = append(l, place(n))
	}
	return l
}

// txn is a transaction of the records from the place begin on, up to another one.
func txn(epoch, id, begin, to int64, vector ...int64) api.Txn {
	return api.Txn{Epoch: epoch, Id: id, Begin: begin, Records: places(begin, to), Vector: slices.Clone(vector)}
}

// spoilt is t with another record at i, if it has one there.
func spoilt(t api.Txn, i int) api.Txn {
	t = copiedTxn(t)
	if i < len(t.Records) {
		t.Records[i].Val++
	}
	return t
}

// altered is t with a change.
func altered(t api.Txn, change func(t *api.Txn)) api.Txn {
	t = copiedTxn(t)
	change(&t)
	return t
}

// but is p with a change.
func but(p api.Sink, change func(p *api.Sink)) api.Sink {
	p = copied(p)
	change(&p)
	return p
}

// used is a sink of two partitions: six records are committed, 3 and 8 were under its register, 4 and 9 are pre-committed.
func used() api.Sink {
	return api.Sink{
		Fence:  5,
		Out:    places(0, 6),
		Vector: []int64{10, 20},
		Done:   []int64{3, 8},
		Pre:    []api.Txn{txn(5, 4, 6, 8, 12, 20), txn(5, 9, 4, 7, 11, 25)},
	}
}

// raised is p behind raising its register.
func raised(p api.Sink, epoch int64) api.Sink {
	return but(p, func(p *api.Sink) { p.Fence, p.Done, p.Pre = epoch, nil, nil })
}

// with is p with t pre-committed, its Ids rising.
func with(p api.Sink, t api.Txn) api.Sink {
	return but(p, func(p *api.Sink) {
		p.Pre = append(p.Pre, copiedTxn(t))
		slices.SortFunc(p.Pre, func(a, b api.Txn) int { return int(a.Id - b.Id) })
	})
}

// full is a sink of two partitions with room for two more records, and for no more transactions; all of them suit.
func full() api.Sink {
	p := api.Sink{Fence: 5, Out: places(0, maxIn-2), Vector: []int64{10, 20}, Done: []int64{3}}
	for id := range int64(8) {
		p.Pre = append(p.Pre, txn(5, 11+id, maxIn-4, maxIn-1, 10+id, 20))
	}
	return p
}

// short is what a test tells of x, which may have thousands of records.
func short(x any) string {
	text := fmt.Sprintf("%+v", x)
	if len(text) > 400 {
		text = text[:200] + " .. " + text[len(text)-200:]
	}
	return text
}

func fromPlain(t *testing.T, p api.Sink) *sink.Sink {
	t.Helper()
	s, e := sink.From(len(p.Vector), p)
	if e != api.OK {
		t.Fatalf("From(%s) = %d", short(p), e)
	}
	return s
}

// wantStand holds all that s tells against what it must be.
func wantStand(t *testing.T, s *sink.Sink, want api.Sink) {
	t.Helper()
	want = copied(want)
	if got := copied(s.Plain()); !reflect.DeepEqual(got, want) {
		t.Fatalf("the sink is %s; want %s", short(got), short(want))
	}
	if s.Register() != want.Fence || s.Len() != int64(len(want.Out)) || !slices.Equal(s.Vector(), want.Vector) {
		t.Fatalf("Register %d, Len %d, Vector %v of %s", s.Register(), s.Len(), s.Vector(), short(want))
	}
	wantOut(t, s, want.Out)
	wantNames(t, s, want)
}

func wantOut(t *testing.T, s *sink.Sink, want []api.Record) {
	t.Helper()
	if l, e := s.Read(0, len(want)+1); e != api.OK || !slices.Equal(l, want) {
		t.Fatalf("Read tells %s, %d; want %s", short(l), e, short(want))
	}
	var l []api.Record
	for n, r := range s.All() {
		if n != int64(len(l)) {
			t.Fatalf("All tells the place %d behind %d records", n, len(l))
		}
		l = append(l, r)
	}
	if !slices.Equal(l, want) {
		t.Fatalf("All tells %s; want %s", short(l), short(want))
	}
}

// wantNames holds Open and Done against what is pre-committed and what was committed.
func wantNames(t *testing.T, s *sink.Sink, want api.Sink) {
	t.Helper()
	var open []api.TxnKey
	for _, x := range want.Pre {
		open = append(open, api.TxnKey{Epoch: x.Epoch, Id: x.Id})
		if s.Done(api.TxnKey{Epoch: x.Epoch, Id: x.Id}) {
			t.Fatalf("%d is Done of %s", x.Id, short(want))
		}
	}
	if got := s.Open(); !slices.Equal(got, open) {
		t.Fatalf("Open tells %v; want %v", got, open)
	}
	for _, id := range want.Done {
		if !s.Done(api.TxnKey{Epoch: want.Fence, Id: id}) {
			t.Fatalf("%d is not Done of %s", id, short(want))
		}
		for _, epoch := range []int64{want.Fence - 1, want.Fence + 1} {
			if s.Done(api.TxnKey{Epoch: epoch, Id: id}) {
				t.Fatalf("%d under %d is Done of %s", id, epoch, short(want))
			}
		}
	}
}

// wantAct does an act at a sink of that Plain, and tells what it must answer, and what the sink is then.
func wantAct(t *testing.T, p api.Sink, a act, err api.Errno, then api.Sink) {
	t.Helper()
	s := fromPlain(t, p)
	if got := do(s, a); got != err {
		t.Errorf("of %s: %s answers %d; want %d", short(p), short(a), got, err)
	}
	wantStand(t, s, then)
}

// wantNo tells that an act is refused, and changes nothing.
func wantNo(t *testing.T, p api.Sink, a act, err api.Errno) {
	t.Helper()
	wantAct(t, p, a, err, p)
}

func TestExample(t *testing.T) {
	x, y, z := api.Record{Key: 1, Val: 1}, api.Record{Key: 2, Val: 2}, api.Record{Key: 3, Val: 3}
	s, e := sink.New(1)
	if e != api.OK {
		t.Fatal(e)
	}
	for i, step := range []struct {
		act act
		err api.Errno
		out []api.Record
	}{
		{doPre(api.Txn{Epoch: 1, Id: 1, Begin: 0, Records: []api.Record{x, y}, Vector: []int64{2}}), api.OK, nil},
		{doCommit(1, 1), api.OK, []api.Record{x, y}},
		{doPre(api.Txn{Epoch: 2, Id: 5, Begin: 1, Records: []api.Record{y, z}, Vector: []int64{3}}), api.OK, []api.Record{x, y}},
		{doCommit(2, 5), api.OK, []api.Record{x, y, z}},
		{doCommit(1, 2), api.ErrFenced, []api.Record{x, y, z}},
	} {
		if got := do(s, step.act); got != step.err {
			t.Errorf("step %d answers %d; want %d", i, got, step.err)
		}
		wantOut(t, s, step.out)
		if i == 2 && s.Register() != 2 {
			t.Errorf("the register is %d", s.Register())
		}
	}
	wantStand(t, s, api.Sink{Fence: 2, Out: []api.Record{x, y, z}, Vector: []int64{3}, Done: []int64{5}})
	if e := s.Pre(api.Txn{Epoch: 2, Id: 6, Begin: 1, Records: []api.Record{z}, Vector: []int64{4}}); e != api.ErrBehind {
		t.Error(e)
	}
	wantStand(t, s, api.Sink{Fence: 2, Out: []api.Record{x, y, z}, Vector: []int64{3}, Done: []int64{5}})
}

// TestLimits: the numbers that the chapter tells.
func TestLimits(t *testing.T) {
	got := []int64{api.MaxOut, api.MaxTxn, api.MaxOpen, api.MaxNum, api.MaxParts, int64(api.ErrFenced), int64(api.ErrGap), int64(api.ErrBehind), int64(api.ErrDiffer), int64(api.ErrRoom)}
	if want := []int64{4096, 4096, 8, end, 4, 150, 151, 152, 153, 30}; !reflect.DeepEqual(got, want) {
		t.Errorf("%v; want %v", got, want)
	}
}

func TestP151New(t *testing.T) {
	for _, parts := range []int{least, -1, 0, 5, 6, 1 << 32, most} {
		if s, e := sink.New(parts); s != nil || e != api.ErrArg {
			t.Errorf("New(%d) = %v, %d", parts, s, e)
		}
	}
	for parts := 1; parts <= 4; parts++ {
		s, e := sink.New(parts)
		if e != api.OK {
			t.Fatalf("New(%d) = %d", parts, e)
		}
		wantStand(t, s, api.Sink{Vector: make([]int64, parts)})
	}
}

func TestP151Fence(t *testing.T) {
	for _, register := range []int64{1, 5, end - 1, end} {
		p := but(used(), func(p *api.Sink) { p.Fence, p.Pre[0].Epoch, p.Pre[1].Epoch = register, register, register })
		for _, epoch := range []int64{least, least + 1, -1, 0, end + 1, most} {
			wantNo(t, p, doFence(epoch), api.ErrArg)
		}
		for _, epoch := range []int64{1, 2, 4, 5, 6, end - 1, end} {
			switch {
			case epoch < register:
				wantNo(t, p, doFence(epoch), api.ErrFenced)
			case epoch == register:
				wantNo(t, p, doFence(epoch), api.OK)
			default:
				wantAct(t, p, doFence(epoch), api.OK, raised(p, epoch))
			}
		}
	}
	fresh := api.Sink{Vector: []int64{0}}
	for _, epoch := range []int64{1, 7, end} {
		wantAct(t, fresh, doFence(epoch), api.OK, raised(fresh, epoch))
	}
	wantNo(t, fresh, doFence(0), api.ErrArg)
	wantNo(t, fresh, doFence(end+1), api.ErrArg)
}
