package sink_test

import (
	"fmt"
	"slices"
	"strconv"
	"testing"

	"pontoon/api"
)

// flaws make each a transaction of two partitions one that may not be.
func flaws() map[string]func(t *api.Txn) {
	out := map[string]func(t *api.Txn){
		"an Epoch of 0":          func(t *api.Txn) { t.Epoch = 0 },
		"an Epoch above MaxNum":  func(t *api.Txn) { t.Epoch = end + 1 },
		"the least Epoch":        func(t *api.Txn) { t.Epoch = least },
		"the greatest Epoch":     func(t *api.Txn) { t.Epoch = most },
		"an Id of 0":             func(t *api.Txn) { t.Id = 0 },
		"an Id below 0":          func(t *api.Txn) { t.Id = -1 },
		"an Id above MaxNum":     func(t *api.Txn) { t.Id = end + 1 },
		"the greatest Id":        func(t *api.Txn) { t.Id = most },
		"a Begin below 0":        func(t *api.Txn) { t.Begin = -1 },
		"the least Begin":        func(t *api.Txn) { t.Begin = least },
		"a Begin above MaxOut":   func(t *api.Txn) { t.Begin = maxIn + 1 },
		"the greatest Begin":     func(t *api.Txn) { t.Begin = most },
		"one record more":        func(t *api.Txn) { t.Records = places(t.Begin, t.Begin+maxIn+1) },
		"very many records":      func(t *api.Txn) { t.Records = places(t.Begin, t.Begin+3*maxIn) },
		"no numbers":             func(t *api.Txn) { t.Vector = nil },
		"a number too few":       func(t *api.Txn) { t.Vector = t.Vector[:1] },
		"a number too many":      func(t *api.Txn) { t.Vector = append(t.Vector, 30) },
		"a number of 0 too many": func(t *api.Txn) { t.Vector = append(t.Vector, 0) },
		"many numbers":           func(t *api.Txn) { t.Vector = append(t.Vector, 30, 40, 50) },
		"an Epoch below 0":       func(t *api.Txn) { t.Epoch = -1 },
		"an empty Vector":        func(t *api.Txn) { t.Vector = []int64{} },
	}
	for i, at := range []string{"first", "second"} {
		for _, n := range []int64{least, -1, end + 1, most} {
			out["a "+at+" number that is out of range, "+strconv.FormatInt(n, 10)] = func(t *api.Txn) { t.Vector[i] = n }
		}
	}
	return out
}

// news is a transaction that suits used, and that it does not know.
func news() api.Txn {
	return txn(5, 7, 4, 8, 11, 21)
}

func TestP152MayNotBe(t *testing.T) {
	wantAct(t, used(), doPre(news()), api.OK, with(used(), news()))
	for name, spoil := range flaws() {
		t.Run(name, func(t *testing.T) {
			// Neither is the register raised, nor does it help to be fenced off, or known by name.
			for _, epoch := range []int64{1, 4, 5, 6, end} {
				for _, id := range []int64{3, 4, 7} {
					x := altered(news(), func(x *api.Txn) { x.Epoch, x.Id = epoch, id })
					wantNo(t, used(), doPre(altered(x, spoil)), api.ErrArg)
				}
			}
			wantNo(t, api.Sink{Vector: []int64{0, 0}}, doPre(altered(txn(1, 1, 0, 2, 0, 0), spoil)), api.ErrArg)
		})
	}
}

// TestP152OtherParts: a Vector has a number for each partition of that sink.
func TestP152OtherParts(t *testing.T) {
	for parts := 1; parts <= 4; parts++ {
		p := api.Sink{Vector: make([]int64, parts)}
		for count := range 7 {
			x := txn(1, 1, 0, 2, make([]int64, count)...)
			if count == parts {
				wantAct(t, p, doPre(x), api.OK, but(with(p, x), func(p *api.Sink) { p.Fence = 1 }))
			} else {
				wantNo(t, p, doPre(x), api.ErrArg)
			}
		}
	}
}

// TestP152JustMayBe: what is at the bounds of that, at sinks that such suits.
func TestP152JustMayBe(t *testing.T) {
	fresh := api.Sink{Vector: []int64{0, 0}}
	half := api.Sink{Fence: 1, Out: places(0, 100), Vector: []int64{0, 0}}
	whole := api.Sink{Fence: 1, Out: places(0, maxIn), Vector: []int64{3, end}}
	for _, x := range []struct {
		sink api.Sink
		txn  api.Txn
	}{
		{fresh, txn(1, 1, 0, 0, 0, 0)},
		{fresh, txn(end, end, 0, 2, end, end)},
		{fresh, txn(1, end, 0, maxIn, 0, end)},
		{fresh, txn(end, 1, 0, maxIn-1, end, 0)},
		{half, txn(1, 1, 0, maxIn, 0, 0)},
		{half, txn(1, 1, 0, 100, 0, 0)},
		{half, txn(1, 1, 100, 100, 0, 0)},
		{half, txn(1, 1, 100, maxIn, end-1, 1)},
		{whole, txn(1, 1, maxIn, maxIn, 3, end)},
		{whole, txn(1, 1, maxIn-1, maxIn, 4, end)},
		{whole, txn(1, 1, 0, maxIn, end, end)},
	} {
		then := but(with(x.sink, x.txn), func(p *api.Sink) { p.Fence = x.txn.Epoch })
		wantAct(t, x.sink, doPre(x.txn), api.OK, then)
	}
	// A Begin of MaxOut may be, though there is a gap ahead of it.
	wantNo(t, half, doPre(txn(1, 1, maxIn, maxIn, 0, 0)), api.ErrGap)
	wantNo(t, half, doPre(txn(1, 1, maxIn, 2*maxIn, 0, 0)), api.ErrGap)
}

func TestP152Fenced(t *testing.T) {
	for _, epoch := range []int64{1, 2, 4} {
		for _, id := range []int64{1, 3, 4, 7, end} {
			wantNo(t, used(), doPre(altered(news(), func(x *api.Txn) { x.Epoch, x.Id = epoch, id })), api.ErrFenced)
		}
	}
	last := raised(used(), end)
	wantNo(t, last, doPre(altered(news(), func(x *api.Txn) { x.Epoch = end - 1 })), api.ErrFenced)
	wantAct(t, last, doPre(altered(news(), func(x *api.Txn) { x.Epoch = end })), api.OK, with(last, altered(news(), func(x *api.Txn) { x.Epoch = end })))
}

// TestP152Raises: whatever comes of it, its epoch is the register then, and what there was under the one ahead of it is gone.
func TestP152Raises(t *testing.T) {
	for _, epoch := range []int64{6, 7, end} {
		under := func(x api.Txn) api.Txn {
			x.Epoch = epoch
			return x
		}
		then := raised(used(), epoch)
		wantAct(t, used(), doPre(under(news())), api.OK, with(then, under(news())))
		// Its Id was committed, or is another one's, under the epoch ahead of it.
		for _, id := range []int64{3, 4, 8, 9} {
			x := altered(under(news()), func(x *api.Txn) { x.Id = id })
			wantAct(t, used(), doPre(x), api.OK, with(then, x))
		}
		wantAct(t, used(), doPre(txn(epoch, 7, 7, 8, 10, 20)), api.ErrGap, then)
		wantAct(t, used(), doPre(txn(epoch, 7, 6, 8, 9, 20)), api.ErrBehind, then)
		wantAct(t, used(), doPre(txn(epoch, 7, 4, 5, 10, 20)), api.ErrBehind, then)
		wantAct(t, used(), doPre(spoilt(txn(epoch, 7, 4, 7, 10, 20), 1)), api.ErrDiffer, then)
		wantAct(t, used(), doPre(txn(epoch, 7, 6, maxIn+1, 10, 20)), api.ErrRoom, then)
		// There is room for it, as those that were pre-committed are gone.
		x := txn(epoch, 7, maxIn-2, maxIn, 10, 20)
		wantAct(t, full(), doPre(x), api.OK, with(raised(full(), epoch), x))
	}
}

// TestP152Committed: nothing happens, whatever else it has, also where that does not suit.
func TestP152Committed(t *testing.T) {
	for _, id := range []int64{3, 8} {
		for _, x := range []api.Txn{
			txn(5, id, 4, 8, 11, 21), txn(5, id, 0, 0, 0, 0), txn(5, id, 3, 6, 10, 20), txn(5, id, 9, 9, 1, 1),
			txn(5, id, 6, maxIn+1, 10, 20), spoilt(txn(5, id, 4, 8, 11, 21), 0),
		} {
			wantNo(t, used(), doPre(x), api.OK)
		}
	}
	wantNo(t, full(), doPre(txn(5, 3, 0, maxIn, 11, 21)), api.OK)
	for _, spoil := range flaws() {
		wantNo(t, used(), doPre(altered(altered(news(), func(x *api.Txn) { x.Id = 3 }), spoil)), api.ErrArg)
	}
	// Once it is known as committed by a Commit, too.
	s := fromPlain(t, used())
	for _, a := range []act{doCommit(5, 4), doPre(used().Pre[0]), doPre(txn(5, 4, 0, 1, 0, 0))} {
		if e := do(s, a); e != api.OK {
			t.Errorf("%s answers %d", short(a), e)
		}
	}
	wantStand(t, s, but(used(), func(p *api.Sink) {
		p.Out, p.Vector, p.Done, p.Pre = places(0, 8), []int64{12, 20}, []int64{3, 4, 8}, p.Pre[1:]
	}))
}

// TestP152PreCommitted: of the same nothing happens, of another one in one part alone it is ErrTwice.
func TestP152PreCommitted(t *testing.T) {
	for _, p := range []api.Sink{used(), full()} {
		for i, x := range p.Pre {
			wantNo(t, p, doPre(x), api.OK)
			for name, change := range map[string]func(x *api.Txn){
				"Begin, one more":    func(x *api.Txn) { x.Begin++ },
				"Begin, one less":    func(x *api.Txn) { x.Begin-- },
				"a Key":              func(x *api.Txn) { x.Records[0].Key++ },
				"a Val":              func(x *api.Txn) { x.Records[0].Val-- },
				"the last Key":       func(x *api.Txn) { x.Records[len(x.Records)-1].Key-- },
				"the last Val":       func(x *api.Txn) { x.Records[len(x.Records)-1].Val++ },
				"two records turned": func(x *api.Txn) { x.Records[0], x.Records[1] = x.Records[1], x.Records[0] },
				"a record more":      func(x *api.Txn) { x.Records = append(x.Records, api.Record{}) },
				"a record less":      func(x *api.Txn) { x.Records = x.Records[:len(x.Records)-1] },
				"no records":         func(x *api.Txn) { x.Records = nil },
				"the first number":   func(x *api.Txn) { x.Vector[0]++ },
				"the second number":  func(x *api.Txn) { x.Vector[1]-- },
				"both numbers":       func(x *api.Txn) { x.Vector = []int64{0, end} },
			} {
				t.Run(fmt.Sprint(i, name), func(t *testing.T) {
					wantNo(t, p, doPre(altered(x, change)), api.ErrTwice)
				})
			}
			for _, spoil := range flaws() {
				wantNo(t, p, doPre(altered(x, spoil)), api.ErrArg)
			}
		}
	}
	// What has no records is the same as what has an empty list of them.
	empty := txn(5, 7, 6, 6, 10, 20)
	p := with(used(), empty)
	empty.Records = nil
	wantNo(t, p, doPre(empty), api.OK)
	empty.Records = []api.Record{}
	wantNo(t, p, doPre(empty), api.OK)
}

// TestP152PreCommittedUnsuited: of what does not suit any more it is still so.
func TestP152PreCommittedUnsuited(t *testing.T) {
	p := used()
	for id, x := range []api.Txn{txn(5, 20, 7, 9, 10, 20), txn(5, 21, 6, 8, 9, 20), txn(5, 22, 3, 5, 10, 20), spoilt(txn(5, 23, 3, 7, 10, 20), 2), txn(5, 24, 1, maxIn+1, 10, 20)} {
		p = with(p, x)
		wantNo(t, p, doPre(x), api.OK)
		wantNo(t, p, doPre(altered(x, func(x *api.Txn) { x.Vector[0]++ })), api.ErrTwice)
		wantNo(t, p, doCommit(5, int64(20+id)), []api.Errno{api.ErrGap, api.ErrBehind, api.ErrBehind, api.ErrDiffer, api.ErrRoom}[id])
	}
}

func TestP152Suits(t *testing.T) {
	for name, x := range map[string]struct {
		txn api.Txn
		err api.Errno
	}{
		"Begin at 0":                             {txn(5, 7, 0, 8, 10, 20), api.OK},
		"Begin just below Len":                   {txn(5, 7, 5, 8, 10, 20), api.OK},
		"Begin at Len":                           {txn(5, 7, 6, 8, 10, 20), api.OK},
		"Begin at Len, no records":               {txn(5, 7, 6, 6, 10, 20), api.OK},
		"Begin one above Len":                    {txn(5, 7, 7, 8, 10, 20), api.ErrGap},
		"Begin one above Len, no records":        {txn(5, 7, 7, 7, 10, 20), api.ErrGap},
		"Begin far above Len":                    {txn(5, 7, maxIn, maxIn, 10, 20), api.ErrGap},
		"the first number above":                 {txn(5, 7, 6, 8, 11, 20), api.OK},
		"the second number above":                {txn(5, 7, 6, 8, 10, 21), api.OK},
		"both numbers far above":                 {txn(5, 7, 6, 8, end, end), api.OK},
		"the first number below":                 {txn(5, 7, 6, 8, 9, 20), api.ErrBehind},
		"the second number below":                {txn(5, 7, 6, 8, 10, 19), api.ErrBehind},
		"the first below, the second above":      {txn(5, 7, 6, 8, 9, end), api.ErrBehind},
		"the first above, the second below":      {txn(5, 7, 6, 8, end, 19), api.ErrBehind},
		"both below":                             {txn(5, 7, 6, 8, 0, 0), api.ErrBehind},
		"no records far below Len":               {txn(5, 7, 0, 0, 10, 20), api.ErrBehind},
		"ends just below Len":                    {txn(5, 7, 2, 5, 10, 20), api.ErrBehind},
		"ends just below Len, a new vector":      {txn(5, 7, 0, 5, 30, 40), api.ErrBehind},
		"no records just below Len":              {txn(5, 7, 5, 5, 10, 20), api.ErrBehind},
		"ends at Len":                            {txn(5, 7, 2, 6, 10, 20), api.OK},
		"all that is committed":                  {txn(5, 7, 0, 6, 10, 20), api.OK},
		"ends above Len":                         {txn(5, 7, 2, 7, 10, 20), api.OK},
		"the first record is another one":        {spoilt(txn(5, 7, 3, 8, 10, 20), 0), api.ErrDiffer},
		"a record is another one":                {spoilt(txn(5, 7, 3, 8, 10, 20), 1), api.ErrDiffer},
		"the last committed one is another one":  {spoilt(txn(5, 7, 3, 8, 10, 20), 2), api.ErrDiffer},
		"the first that is new is another one":   {spoilt(txn(5, 7, 3, 8, 10, 20), 3), api.OK},
		"the last one that is new is another":    {spoilt(txn(5, 7, 3, 8, 10, 20), 4), api.OK},
		"the only one is another one":            {spoilt(txn(5, 7, 5, 6, 10, 20), 0), api.ErrDiffer},
		"a record differs in Key":                {altered(txn(5, 7, 3, 8, 10, 20), func(x *api.Txn) { x.Records[1].Key++ }), api.ErrDiffer},
		"a record differs in Val":                {altered(txn(5, 7, 3, 8, 10, 20), func(x *api.Txn) { x.Records[1].Val-- }), api.ErrDiffer},
		"the right records, one place too early": {altered(txn(5, 7, 3, 8, 10, 20), func(x *api.Txn) { x.Begin-- }), api.ErrDiffer},
		"as many as MaxOut":                      {txn(5, 7, 6, maxIn, 10, 20), api.OK},
		"as many as MaxOut, from 0 on":           {txn(5, 7, 0, maxIn, 10, 20), api.OK},
		"one more than MaxOut":                   {txn(5, 7, 6, maxIn+1, 10, 20), api.ErrRoom},
		"one more than MaxOut, from 1 on":        {txn(5, 7, 1, maxIn+1, 10, 20), api.ErrRoom},
		"many more than MaxOut":                  {txn(5, 7, 6, maxIn+6, 10, 20), api.ErrRoom},
	} {
		t.Run(name, func(t *testing.T) {
			if x.err != api.OK {
				wantNo(t, used(), doPre(x.txn), x.err)
				return
			}
			wantAct(t, used(), doPre(x.txn), api.OK, with(used(), x.txn))
		})
	}
}

// TestP152VectorInEachPlace: of sinks of each count of partitions.
func TestP152VectorInEachPlace(t *testing.T) {
	for parts := 1; parts <= 4; parts++ {
		for i := range parts {
			for _, n := range []int64{0, 1, 6, 7, 8, end} {
				p := api.Sink{Fence: 1, Out: places(0, 2), Vector: slices.Repeat([]int64{7}, parts)}
				x := txn(1, 1, 2, 3, p.Vector...)
				x.Vector[i] = n
				if n < 7 {
					wantNo(t, p, doPre(x), api.ErrBehind)
				} else {
					wantAct(t, p, doPre(x), api.OK, with(p, x))
				}
			}
		}
	}
}

func TestP152Full(t *testing.T) {
	s := fromPlain(t, used())
	p := used()
	for id := int64(20); len(p.Pre) < 8; id++ {
		x := txn(5, id, 6, 8, 10, 20)
		p = with(p, x)
		if e := s.Pre(x); e != api.OK {
			t.Fatal(id, e)
		}
		wantStand(t, s, p)
	}
	wantNo(t, p, doPre(news()), api.ErrFull)
	if e := s.Pre(news()); e != api.ErrFull {
		t.Error(e)
	}
	wantStand(t, s, p)
	// There is room again for one behind an Abort, and behind a Commit.
	for _, x := range []struct {
		act act
		err api.Errno
	}{
		{doAbort(5, 20), api.OK},
		{doPre(news()), api.OK},
		{doPre(txn(5, 30, 6, 8, 10, 20)), api.ErrFull},
		{doCommit(5, 4), api.OK},
		{doPre(txn(5, 31, 8, 9, 12, 20)), api.OK},
		{doPre(txn(5, 32, 8, 9, 12, 20)), api.ErrFull},
	} {
		if e := do(s, x.act); e != x.err {
			t.Errorf("%s answers %d; want %d", short(x.act), e, x.err)
		}
	}
}

// blemish is something for which a transaction is refused, or nothing happens; blemishes stand in the order in which they count.
type blemish struct {
	name  string
	spoil func(x *api.Txn)
	err   api.Errno
	known bool // it is known by name, so that nothing else counts
}

// suitable is a transaction that full has no room for; nothing else speaks against it.
func suitable() api.Txn {
	return txn(5, 7, maxIn-5, maxIn-1, 10, 20)
}

// blemishes are all of them, in rows of such that do not go with each other.
func blemishes() [][]blemish {
	last := func(x *api.Txn) int64 { return x.Begin + int64(len(x.Records)) }
	return [][]blemish{
		{
			{name: "arg: a number above MaxNum", spoil: func(x *api.Txn) { x.Vector[0] = end + 1 }, err: api.ErrArg},
			{name: "arg: a number too many", spoil: func(x *api.Txn) { x.Vector = append(x.Vector, 0) }, err: api.ErrArg},
		},
		{{name: "fenced", spoil: func(x *api.Txn) { x.Epoch = 4 }, err: api.ErrFenced}},
		{
			{name: "committed", spoil: func(x *api.Txn) { x.Id = 3 }, err: api.OK, known: true},
			{name: "twice", spoil: func(x *api.Txn) { x.Id = 11 }, err: api.ErrTwice, known: true},
		},
		{{name: "gap", spoil: func(x *api.Txn) { x.Begin, x.Records = maxIn-1, places(maxIn-1, maxIn) }, err: api.ErrGap}},
		{
			{name: "behind", spoil: func(x *api.Txn) { x.Vector[1]-- }, err: api.ErrBehind},
			{name: "short", spoil: func(x *api.Txn) { x.Records = x.Records[:2] }, err: api.ErrBehind},
		},
		{{name: "differ", spoil: func(x *api.Txn) { x.Records[1].Key++ }, err: api.ErrDiffer}},
		{{name: "room", spoil: func(x *api.Txn) { x.Records = append(x.Records, places(last(x), maxIn+1)...) }, err: api.ErrRoom}},
	}
}

// mixed has f called with all sets of blemishes, at most one of a row, that go with each other.
func mixed(rows [][]blemish, had []blemish, f func(l []blemish)) {
	if len(rows) == 0 {
		f(had)
		return
	}
	mixed(rows[1:], had, f)
	for _, b := range rows[0] {
		if !clashes(b, had) {
			mixed(rows[1:], append(had[:len(had):len(had)], b), f)
		}
	}
}

// clashes tells whether no transaction has b with one of those: behind a gap nothing is short, or another record, and what is short needs no room.
func clashes(b blemish, had []blemish) bool {
	return slices.ContainsFunc(had, func(x blemish) bool {
		return x.name == "gap" && (b.name == "short" || b.name == "differ") || x.name == "short" && b.name == "room"
	})
}

// TestP152Order: of all sets of what can be wrong at once the first one counts; full is the last one of each.
func TestP152Order(t *testing.T) {
	tried := 0
	mixed(blemishes(), nil, func(l []blemish) {
		tried++
		x, err, name := suitable(), api.ErrFull, "full"
		for i := range l {
			l[i].spoil(&x)
		}
		if len(l) > 0 {
			err = l[0].err
		}
		for _, b := range l {
			name = b.name + ", " + name
		}
		t.Run(name, func(t *testing.T) { wantNo(t, full(), doPre(x), err) })
		raises(t, name, x, l)
	})
	if tried < 100 {
		t.Errorf("just %d sets", tried)
	}
}

// raises does the same under a greater epoch: the register is raised, and of what it had nothing counts any more; but what may not be raises nothing.
func raises(t *testing.T, name string, x api.Txn, l []blemish) {
	x.Epoch = 6
	at := slices.IndexFunc(l, func(b blemish) bool { return b.err != api.ErrFenced && !b.known })
	t.Run("raises, "+name, func(t *testing.T) {
		switch {
		case at < 0:
			wantAct(t, full(), doPre(x), api.OK, with(raised(full(), 6), x))
		case l[at].err == api.ErrArg:
			wantNo(t, full(), doPre(x), api.ErrArg)
		default:
			wantAct(t, full(), doPre(x), l[at].err, raised(full(), 6))
		}
	})
}
