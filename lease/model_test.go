package lease_test

import (
	"math"
	"math/rand"
	"slices"
	"testing"

	"pontoon/api"
	"pontoon/lease"
	"pontoon/pack"
)

const (
	least = math.MinInt64
	most  = math.MaxInt64
	end   = 9007199254740992 // MaxNum, as the document tells it
)

// Kinds of acts.
const (
	tick = iota
	acquire
	renew
	release
	transfer
	alone
	kinds
)

// act is a call that makes another lease of one; it has what that call takes.
type act struct {
	kind   int
	region int
	epoch  int64
	to     int
	n      int64
	solo   bool
}

// answer is what such a call answers; the epoch is that of a grant alone.
type answer struct {
	lease api.Lease
	epoch int64
	err   api.Errno
}

func do(l api.Lease, a act) answer {
	var x answer
	switch a.kind {
	case tick:
		x.lease = lease.Tick(l, a.n)
	case acquire:
		x.lease, x.epoch, x.err = lease.Acquire(l, a.region)
	case renew:
		x.lease, x.err = lease.Renew(l, a.region, a.epoch)
	case release:
		x.lease, x.err = lease.Release(l, a.region, a.epoch)
	case transfer:
		x.lease, x.epoch, x.err = lease.Transfer(l, a.region, a.epoch, a.to)
	case alone:
		x.lease, x.err = lease.Alone(l, a.region, a.epoch, a.solo)
	}
	return x
}

// modelCheck does what P13.1 tells, word by word, and so do those below it of their promises.
func modelCheck(l api.Lease) api.Errno {
	if l.Owner < -1 || l.Owner > 1 || l.Last < -1 || l.Last > 1 {
		return 1
	}
	for _, n := range []int64{l.Epoch, l.Clock, l.Until} {
		if n < 0 || n > end {
			return 1
		}
	}
	if l.Owner != -1 && l.Owner != l.Last {
		return 1
	}
	if l.Last == -1 && (l.Epoch != 0 || l.Solo) {
		return 1
	}
	if l.Last != -1 && l.Epoch == 0 {
		return 1
	}
	if l.Owner == -1 && l.Until > l.Clock {
		return 1
	}
	return 0
}

func modelHeld(l api.Lease) bool {
	return modelCheck(l) == 0 && l.Owner != -1 && l.Until > l.Clock
}

// modelLater is a time that is n more, at most MaxNum.
func modelLater(time, n int64) int64 {
	if n < 0 {
		return time
	}
	if n > end || time+n > end {
		return end
	}
	return time + n
}

func modelGrant(l api.Lease, region int) answer {
	if l.Epoch == end {
		return answer{l, 0, 6}
	}
	if l.Last != region {
		l.Solo = false
	}
	l.Owner = region
	l.Last = region
	l.Epoch = l.Epoch + 1
	l.Until = modelLater(l.Clock, 16)
	return answer{l, l.Epoch, 0}
}

func modelAcquire(l api.Lease, region int) answer {
	if region != 0 && region != 1 {
		return answer{l, 0, 1}
	}
	other := 1 - region
	if modelHeld(l) && l.Owner == other {
		return answer{l, 0, 130}
	}
	if l.Solo && l.Last == other {
		return answer{l, 0, 131}
	}
	return modelGrant(l, region)
}

func modelTransfer(l api.Lease, to int) answer {
	if l.Solo {
		return answer{l, 0, 131}
	}
	return modelGrant(l, to)
}

// modelDo does what P13.1 to P13.3 tell of an act.
func modelDo(l api.Lease, a act) answer {
	if modelCheck(l) != 0 {
		if a.kind == tick {
			return answer{lease: l}
		}
		return answer{l, 0, 1}
	}
	switch a.kind {
	case tick:
		l.Clock = modelLater(l.Clock, a.n)
		return answer{lease: l}
	case acquire:
		return modelAcquire(l, a.region)
	}
	if a.region != 0 && a.region != 1 {
		return answer{l, 0, 1}
	}
	if a.kind == transfer && a.to != 1-a.region {
		return answer{l, 0, 1}
	}
	if l.Owner != a.region || l.Epoch != a.epoch {
		return answer{l, 0, 132}
	}
	switch a.kind {
	case renew:
		l.Until = modelLater(l.Clock, 16)
	case release:
		l.Owner = -1
		l.Until = l.Clock
	case alone:
		l.Solo = a.solo
	case transfer:
		return modelTransfer(l, a.to)
	}
	return answer{lease: l}
}

// formOf is a lease's bytes, whether it may be or not.
func formOf(l api.Lease) []byte {
	solo := int64(0)
	if l.Solo {
		solo = 1
	}
	return formOfNumbers(int64(l.Owner), int64(l.Last), l.Epoch, l.Clock, l.Until, solo)
}

func formOfNumbers(l ...int64) []byte {
	var b []byte
	for _, n := range l {
		b = append(b, pack.Int(nil, n)...)
	}
	return b
}

// modelParse reads six numbers from the left, the last one 0 or 1.
func modelParse(b []byte) (api.Lease, api.Errno) {
	var x [6]int64
	for i := range x {
		n, size, e := pack.First(b)
		if e != 0 {
			return api.Lease{}, e
		}
		x[i], b = n, b[size:]
		if i == 5 && n != 0 && n != 1 {
			return api.Lease{}, 11
		}
	}
	if len(b) > 0 {
		return api.Lease{}, 12
	}
	l := api.Lease{Owner: int(x[0]), Last: int(x[1]), Epoch: x[2], Clock: x[3], Until: x[4], Solo: x[5] == 1}
	if modelCheck(l) != 0 {
		return api.Lease{}, 1
	}
	return l, 0
}

// regions are numbers of regions, and such of none.
func regions() []int {
	return []int{least, -2, -1, 0, 1, 2, most}
}

// epochs are numbers around that of l, and some at the edges.
func epochs(l api.Lease) []int64 {
	return []int64{least, -1, 0, l.Epoch - 1, l.Epoch, l.Epoch + 1, end, most}
}

// acts are all calls of l with numbers at the edges.
func acts(l api.Lease) []act {
	var out []act
	for _, n := range []int64{least, least + 1, -1, 0, 1, 15, 16, 17, end - l.Clock - 1, end - l.Clock, end - l.Clock + 1, end, most} {
		out = append(out, act{kind: tick, n: n})
	}
	for _, region := range regions() {
		out = append(out, act{kind: acquire, region: region})
		for _, epoch := range epochs(l) {
			claim := act{region: region, epoch: epoch}
			for _, kind := range []int{renew, release, alone} {
				claim.kind = kind
				out = append(out, claim)
			}
			claim.solo = true
			out = append(out, claim)
			for _, to := range regions() {
				out = append(out, act{kind: transfer, region: region, epoch: epoch, to: to})
			}
		}
	}
	return out
}

// leases are leases of numbers at the edges: all that may be of these, and many that may not.
func leases() []api.Lease {
	var out []api.Lease
	times := []int64{-1, 0, 1, 5, 21, end - 17, end - 16, end - 15, end - 1, end, end + 1}
	for _, owner := range regions() {
		for _, last := range regions() {
			for _, epoch := range []int64{least, -1, 0, 1, 7, end - 1, end, end + 1, most} {
				for _, clock := range times {
					for _, until := range times {
						l := api.Lease{Owner: owner, Last: last, Epoch: epoch, Clock: clock, Until: until}
						solo := l
						solo.Solo = true
						out = append(out, l, solo)
					}
				}
			}
		}
	}
	return out
}

// sound are those of leases that may be.
func sound() []api.Lease {
	return slices.DeleteFunc(leases(), func(l api.Lease) bool { return modelCheck(l) != 0 })
}

func checkAct(t *testing.T, l api.Lease, a act) answer {
	t.Helper()
	got := do(l, a)
	if want := modelDo(l, a); got != want {
		t.Fatalf("of %+v: %+v answers %+v; want %+v", l, a, got, want)
	}
	return got
}

// checkLease holds the calls that make no other lease against the model.
func checkLease(t *testing.T, l api.Lease) {
	t.Helper()
	wantCheck(t, l, modelCheck(l))
	if got, want := lease.Held(l), modelHeld(l); got != want {
		t.Fatalf("Held(%+v) = %v; want %v", l, got, want)
	}
	b := formOf(l)
	if modelCheck(l) != 0 {
		b = nil
	}
	wantBytes(t, l, b, modelCheck(l))
	checkParse(t, formOf(l))
}

func checkParse(t *testing.T, b []byte) {
	t.Helper()
	l, e := modelParse(b)
	wantParse(t, b, l, e)
	if e == api.OK {
		wantBytes(t, l, b, api.OK)
	}
}

func TestModelOfLeases(t *testing.T) {
	for _, l := range leases() {
		checkLease(t, l)
	}
}

func TestModelOfActs(t *testing.T) {
	l := sound()
	if len(l) < 1000 {
		t.Fatalf("just %d leases may be", len(l))
	}
	for _, l := range l {
		for _, a := range acts(l) {
			next := checkAct(t, l, a).lease
			wantCheck(t, next, api.OK)
		}
	}
}

// someLease is a lease that may be.
func someLease(r *rand.Rand) api.Lease {
	for {
		l := api.Lease{Owner: r.Intn(3) - 1, Last: r.Intn(3) - 1, Epoch: someCount(r), Clock: someCount(r), Solo: r.Intn(2) == 0}
		l.Until = modelLater(l.Clock, r.Int63n(40)) - r.Int63n(20)
		if modelCheck(l) == 0 {
			return l
		}
	}
}

func someCount(r *rand.Rand) int64 {
	switch r.Intn(3) {
	case 0:
		return r.Int63n(4)
	case 1:
		return end - r.Int63n(40)
	}
	return r.Int63n(end)
}

// someAct is an act that mostly is one of a region that owns l, or of the other one.
func someAct(r *rand.Rand, l api.Lease) act {
	a := act{kind: r.Intn(kinds), region: r.Intn(2), epoch: l.Epoch, to: r.Intn(2), n: r.Int63n(20), solo: r.Intn(2) == 0}
	switch r.Intn(12) {
	case 0:
		a.region = regions()[r.Intn(len(regions()))]
	case 1:
		a.to = regions()[r.Intn(len(regions()))]
	case 2:
		a.epoch = epochs(l)[r.Intn(len(epochs(l)))]
	case 3:
		a.n = -r.Int63n(end)
	case 4:
		a.region, a.to = l.Owner, 1-l.Owner
	}
	return a
}

func TestModelOfManyActs(t *testing.T) {
	r := rand.New(rand.NewSource(131))
	for range 2000 {
		l := lease.New()
		if r.Intn(2) == 0 {
			l = someLease(r)
		}
		for range 100 {
			l = checkAct(t, l, someAct(r, l)).lease
			checkLease(t, l)
		}
	}
}

func FuzzParse(f *testing.F) {
	f.Add([]byte{1, 1, 0, 0, 0, 0})
	f.Add([]byte{0, 0, 2, 0, 32, 1, 1})
	f.Add(formOf(api.Lease{Owner: 1, Last: 1, Epoch: api.MaxNum, Clock: api.MaxNum - 1, Until: api.MaxNum, Solo: true}))
	f.Fuzz(checkParse)
}

// FuzzActs takes each six numbers of its bytes as an act, the first six as a lease.
func FuzzActs(f *testing.F) {
	f.Add(formOfNumbers(-1, -1, 0, 0, 0, 0, acquire, 0, 0, 0, 0, 0, acquire, 1, 0, 0, 0, 0, tick, 0, 0, 0, 16, 0))
	f.Add(formOfNumbers(0, 0, 7, 5, 21, 1, transfer, 0, 7, 1, 0, 0, alone, 0, 7, 0, 0, 0, transfer, 0, 7, 1, 0, 0, renew, 1, 8, 0, 0, 0))
	f.Fuzz(func(t *testing.T, b []byte) {
		var numbers []int64
		for n := range pack.Ints(b) {
			numbers = append(numbers, n)
		}
		l := lease.New()
		first := true
		for x := range slices.Chunk(numbers, 6) {
			switch {
			case len(x) < 6:
			case first:
				l = api.Lease{Owner: int(x[0]), Last: int(x[1]), Epoch: x[2], Clock: x[3], Until: x[4], Solo: x[5] != 0}
				first = false
			default:
				kind := int(uint64(x[0]) % kinds)
				l = checkAct(t, l, act{kind: kind, region: int(x[1]), epoch: x[2], to: int(x[3]), n: x[4], solo: x[5] != 0}).lease
			}
			checkLease(t, l)
		}
	})
}
