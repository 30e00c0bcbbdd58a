package sink_test

import (
	"slices"
	"testing"

	"pontoon/api"
)

// wrongNames have each one number that is not from 1 to MaxNum, or both.
func wrongNames() []api.TxnKey {
	var out []api.TxnKey
	for _, n := range []int64{least, least + 1, -1, 0, end + 1, most} {
		for _, fine := range []int64{1, 3, 4, 5, 6, 9, end} {
			out = append(out, api.TxnKey{Epoch: n, Id: fine}, api.TxnKey{Epoch: fine, Id: n})
		}
		out = append(out, api.TxnKey{Epoch: n, Id: n})
	}
	return out
}

// without is p in which what has that Id is pre-committed no more.
func without(p api.Sink, id int64) api.Sink {
	return but(p, func(p *api.Sink) {
		p.Pre = slices.DeleteFunc(p.Pre, func(x api.Txn) bool { return x.Id == id })
	})
}

// committed is p behind committing what is pre-committed by that Id, as the records of all places up to the end of that.
func committed(p api.Sink, id int64) api.Sink {
	i := slices.IndexFunc(p.Pre, func(x api.Txn) bool { return x.Id == id })
	x := p.Pre[i]
	return but(without(p, id), func(p *api.Sink) {
		p.Out, p.Vector = places(0, x.Begin+int64(len(x.Records))), slices.Clone(x.Vector)
		p.Done = append(p.Done, id)
		slices.Sort(p.Done)
	})
}

func TestP153WrongNames(t *testing.T) {
	for _, p := range []api.Sink{used(), full(), {Vector: []int64{0}}} {
		for _, k := range wrongNames() {
			wantNo(t, p, act{kind: commit, key: k}, api.ErrArg)
			wantNo(t, p, act{kind: abort, key: k}, api.ErrArg)
		}
	}
}

// TestP153JustNames: numbers at the bounds of what may be.
func TestP153JustNames(t *testing.T) {
	for _, epoch := range []int64{1, end} {
		for _, id := range []int64{1, end} {
			p := with(api.Sink{Fence: epoch, Vector: []int64{0}}, txn(epoch, id, 0, 2, 7))
			wantAct(t, p, doCommit(epoch, id), api.OK, committed(p, id))
			wantAct(t, p, doAbort(epoch, id), api.OK, without(p, id))
			fresh := api.Sink{Vector: []int64{0}}
			wantAct(t, fresh, doCommit(epoch, id), api.ErrNone, raised(fresh, epoch))
			wantAct(t, fresh, doAbort(epoch, id), api.OK, raised(fresh, epoch))
		}
	}
}

// TestP153Fenced: whether the name is known under the register's epoch, or not.
func TestP153Fenced(t *testing.T) {
	for _, epoch := range []int64{1, 2, 4} {
		for _, id := range []int64{1, 3, 4, 7, 8, 9, end} {
			wantNo(t, used(), doCommit(epoch, id), api.ErrFenced)
			wantNo(t, used(), doAbort(epoch, id), api.ErrFenced)
		}
	}
}

// TestP153Raises: an epoch above the register has nothing yet that could be committed, or was.
func TestP153Raises(t *testing.T) {
	for _, p := range []api.Sink{used(), full()} {
		for _, epoch := range []int64{6, 7, end} {
			for _, id := range []int64{1, 3, 4, 7, 8, 9, 11, end} {
				wantAct(t, p, doCommit(epoch, id), api.ErrNone, raised(p, epoch))
				wantAct(t, p, doAbort(epoch, id), api.OK, raised(p, epoch))
			}
		}
	}
}

func TestP153Committed(t *testing.T) {
	for _, id := range []int64{3, 8} {
		wantNo(t, used(), doCommit(5, id), api.OK)
		wantNo(t, used(), doAbort(5, id), api.ErrTwice)
	}
	then := committed(used(), 4)
	wantAct(t, used(), doCommit(5, 4), api.OK, then)
	wantNo(t, then, doCommit(5, 4), api.OK)
	wantNo(t, then, doAbort(5, 4), api.ErrTwice)
}

func TestP153Neither(t *testing.T) {
	for _, id := range []int64{1, 2, 5, 7, 10, end} {
		wantNo(t, used(), doCommit(5, id), api.ErrNone)
		wantNo(t, used(), doAbort(5, id), api.OK)
	}
}

func TestP153Abort(t *testing.T) {
	for _, id := range []int64{4, 9} {
		then := without(used(), id)
		wantAct(t, used(), doAbort(5, id), api.OK, then)
		wantNo(t, then, doAbort(5, id), api.OK)
		wantNo(t, then, doCommit(5, id), api.ErrNone)
		// It may be pre-committed anew, also as another one.
		x := txn(5, id, 6, 7, 30, 40)
		wantAct(t, then, doPre(x), api.OK, with(then, x))
	}
	// What does not suit any more goes like any other one.
	p := with(used(), txn(5, 20, 9, 9, 0, 0))
	wantAct(t, p, doAbort(5, 20), api.OK, used())
}

// TestP153Skips: of a transaction that begins below Len, what stands behind Len is committed alone.
func TestP153Skips(t *testing.T) {
	for begin := range int64(7) {
		for to := int64(6); to < 10; to++ {
			p := with(used(), txn(5, 7, begin, to, 10, 21))
			then := committed(p, 7)
			if len(then.Out) != int(to) {
				t.Fatalf("%d are to be committed, not %d", len(then.Out), to)
			}
			wantAct(t, p, doCommit(5, 7), api.OK, then)
		}
	}
	for _, x := range []api.Txn{txn(5, 7, 6, maxIn, 10, 20), txn(5, 7, 0, maxIn, end, end)} {
		p := with(used(), x)
		wantAct(t, p, doCommit(5, 7), api.OK, committed(p, 7))
	}
	// Without records, or any that is new, the vector alone is another one.
	p := with(used(), txn(5, 7, 6, 6, 11, 22))
	wantAct(t, p, doCommit(5, 7), api.OK, but(used(), func(p *api.Sink) { p.Vector, p.Done = []int64{11, 22}, []int64{3, 7, 8} }))
}

// TestP153DoneInAnyOrder: Ids may be committed in any order; they are told rising.
func TestP153DoneInAnyOrder(t *testing.T) {
	for _, ids := range [][]int64{{1, 2, 3}, {3, 2, 1}, {2, 3, 1}, {end, 1, 7}, {7, end, 1}} {
		p := api.Sink{Fence: 5, Vector: []int64{0}}
		s := fromPlain(t, p)
		for i, id := range ids {
			x := txn(5, id, int64(i), int64(i+1), int64(i))
			p = committed(with(p, x), id)
			if e := s.Pre(x); e != api.OK {
				t.Fatal(ids, e)
			}
			if e := s.Commit(api.TxnKey{Epoch: 5, Id: id}); e != api.OK {
				t.Fatal(ids, e)
			}
			wantStand(t, s, p)
		}
	}
}

// TestP153Unsuited: what is pre-committed, and does not suit, stays pre-committed.
func TestP153Unsuited(t *testing.T) {
	for _, x := range []struct {
		txn api.Txn
		err api.Errno
	}{
		{txn(5, 7, 7, 8, 10, 20), api.ErrGap},
		{txn(5, 7, maxIn, maxIn, 10, 20), api.ErrGap},
		{txn(5, 7, 6, 8, 9, 20), api.ErrBehind},
		{txn(5, 7, 6, 8, 10, 19), api.ErrBehind},
		{txn(5, 7, 2, 5, 10, 20), api.ErrBehind},
		{txn(5, 7, 0, 0, 10, 20), api.ErrBehind},
		{spoilt(txn(5, 7, 3, 8, 10, 20), 0), api.ErrDiffer},
		{spoilt(txn(5, 7, 3, 8, 10, 20), 2), api.ErrDiffer},
		{altered(txn(5, 7, 3, 6, 10, 20), func(x *api.Txn) { x.Records[1].Key-- }), api.ErrDiffer},
		{txn(5, 7, 6, maxIn+1, 10, 20), api.ErrRoom},
		{txn(5, 7, 1, maxIn+1, 10, 20), api.ErrRoom},
		// Where two apply, the first one of them.
		{txn(5, 7, 7, 8, 9, 20), api.ErrGap},
		{txn(5, 7, 7, maxIn+1, 9, 19), api.ErrGap},
		{spoilt(txn(5, 7, 3, 8, 10, 19), 0), api.ErrBehind},
		{spoilt(txn(5, 7, 3, 5, 10, 20), 0), api.ErrBehind},
		{txn(5, 7, 6, maxIn+1, 9, 20), api.ErrBehind},
		{spoilt(txn(5, 7, 1, maxIn+1, 10, 20), 0), api.ErrDiffer},
		{spoilt(txn(5, 7, 1, maxIn+1, 10, 19), 0), api.ErrBehind},
	} {
		wantNo(t, with(used(), x.txn), doCommit(5, 7), x.err)
	}
}

// TestP153SuitedOnce: what did suit when it was pre-committed, and does not behind what was committed since.
func TestP153SuitedOnce(t *testing.T) {
	for _, x := range []struct {
		txn api.Txn
		err api.Errno
	}{
		{txn(5, 7, 4, 8, 11, 20), api.ErrBehind},            // a vector that is less than that of 4
		{txn(5, 7, 4, 9, 30, 20), api.OK},                   // one that is above it
		{txn(5, 7, 4, 8, 12, 20), api.OK},                   // the same
		{txn(5, 7, 4, 7, 30, 30), api.ErrBehind},            // it ends below what is committed then
		{spoilt(txn(5, 7, 4, 8, 12, 20), 3), api.ErrDiffer}, // it has another record at 7
		{spoilt(txn(5, 7, 6, 9, 12, 20), 0), api.ErrDiffer},
		{spoilt(txn(5, 7, 6, 9, 12, 20), 2), api.OK}, // at 8 nothing is committed
	} {
		s := fromPlain(t, used())
		p := with(used(), x.txn)
		if e := s.Pre(x.txn); e != api.OK {
			t.Fatalf("Pre of %s answers %d", short(x.txn), e)
		}
		p = committed(p, 4)
		if e := s.Commit(api.TxnKey{Epoch: 5, Id: 4}); e != api.OK {
			t.Fatal(e)
		}
		for range 2 {
			if e := s.Commit(api.TxnKey{Epoch: 5, Id: 7}); e != x.err {
				t.Errorf("Commit of %s answers %d; want %d", short(x.txn), e, x.err)
			}
		}
		if x.err != api.OK {
			wantStand(t, s, p)
		}
	}
}

// TestP153TheOthersStay: a Commit takes none of those that are pre-committed beside it.
func TestP153TheOthersStay(t *testing.T) {
	p := full()
	s := fromPlain(t, p)
	for _, id := range []int64{13, 11, 18, 12} {
		err := api.OK
		if id < 13 || id == 12 {
			err = api.ErrBehind // its vector is less than that of one that is committed already
		} else {
			p = committed(p, id)
		}
		if e := s.Commit(api.TxnKey{Epoch: 5, Id: id}); e != err {
			t.Errorf("Commit of %d answers %d; want %d", id, e, err)
		}
		wantStand(t, s, p)
	}
}
