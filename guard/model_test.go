package guard_test

import (
	"math"
	"math/rand"
	"slices"
	"testing"

	"pontoon/api"
	"pontoon/guard"
	"pontoon/pack"
)

const (
	least = math.MinInt64
	most  = math.MaxInt64
	end   = 9007199254740992 // MaxNum, as the document tells it
)

// Kinds of acts.
const (
	tick = iota
	ask
	granted
	refused
	yield
	above
	kinds
)

// act is a call that makes another guard of one; it has what that call takes.
type act struct {
	kind   int
	n      int64
	serial int64
	epoch  int64
}

// answer is what such a call answers: a question's serial and kind are those of ask, is is that of granted and refused.
type answer struct {
	guard  api.Guard
	serial int64
	kind   int
	err    api.Errno
	is     bool
}

func do(g api.Guard, a act) answer {
	var x answer
	switch a.kind {
	case tick:
		x.guard = guard.Tick(g, a.n)
	case ask:
		x.guard, x.serial, x.kind, x.err = guard.Ask(g)
	case granted:
		x.guard, x.is = guard.Granted(g, a.serial, a.epoch)
	case refused:
		x.guard, x.is = guard.Refused(g, a.serial)
	case yield:
		x.guard = guard.Yield(g)
	case above:
		x.guard = guard.Above(g, a.epoch)
	}
	return x
}

// modelCheck does what P14.1 tells, word by word, and so do those below it of their promises.
func modelCheck(g api.Guard) api.Errno {
	for _, n := range []int64{g.Clock, g.Epoch, g.Until, g.Serial, g.Asked} {
		if n < 0 || n > end {
			return 1
		}
	}
	if g.Epoch == 0 && g.Until != 0 {
		return 1
	}
	if g.Until > g.Clock+12 {
		return 1
	}
	if g.Kind < 0 || g.Kind > 2 {
		return 1
	}
	if g.Kind == 0 && g.Asked != 0 {
		return 1
	}
	if g.Kind != 0 && (g.Serial == 0 || g.Asked > g.Clock) {
		return 1
	}
	if g.Kind == 2 && g.Epoch == 0 {
		return 1
	}
	return 0
}

// modelTaken is the guard as which all calls but Check take g.
func modelTaken(g api.Guard) api.Guard {
	if modelCheck(g) != 0 {
		return api.Guard{Clock: 0, Epoch: 0, Until: 0, Serial: 0, Kind: 0, Asked: 0}
	}
	return g
}

func modelBelieves(g api.Guard) bool {
	g = modelTaken(g)
	return g.Epoch != 0 && g.Clock < g.Until
}

func modelLeft(g api.Guard) int64 {
	g = modelTaken(g)
	if modelBelieves(g) {
		return g.Until - g.Clock
	}
	return 0
}

func modelDue(g api.Guard) bool {
	g = modelTaken(g)
	wants := g.Epoch == 0 || modelLeft(g) <= 6
	may := g.Kind == 0 || g.Clock >= g.Asked+4
	return wants && may
}

func modelTick(g api.Guard, n int64) api.Guard {
	switch {
	case n < 0:
	case n > end:
		g.Clock = end
	default:
		g.Clock = min(g.Clock+n, end)
	}
	return g
}

func modelAsk(g api.Guard) answer {
	if g.Kind != 0 && g.Clock < g.Asked+4 {
		return answer{guard: g, err: 140}
	}
	if g.Serial == end {
		return answer{guard: g, err: 6}
	}
	g.Serial = g.Serial + 1
	g.Asked = g.Clock
	if g.Epoch == 0 {
		g.Kind = 1
	} else {
		g.Kind = 2
	}
	return answer{guard: g, serial: g.Serial, kind: g.Kind}
}

func modelGranted(g api.Guard, serial, epoch int64) answer {
	if g.Kind == 0 || serial != g.Serial || epoch < 1 || epoch > end {
		return answer{guard: g}
	}
	if g.Kind == 2 && epoch != g.Epoch {
		return answer{guard: g}
	}
	until := g.Asked + 12
	if until > end {
		until = end
	}
	if g.Kind == 2 && g.Until > until {
		until = g.Until
	}
	return answer{guard: api.Guard{Clock: g.Clock, Epoch: epoch, Until: until, Serial: g.Serial}, is: true}
}

func modelRefused(g api.Guard, serial int64) answer {
	if g.Kind == 0 || serial != g.Serial {
		return answer{guard: g}
	}
	if g.Kind == 2 {
		g.Epoch = 0
		g.Until = 0
	}
	g.Kind = 0
	g.Asked = 0
	return answer{guard: g, is: true}
}

// modelDo does what P14.1 to P14.3 tell of an act.
func modelDo(g api.Guard, a act) answer {
	g = modelTaken(g)
	let := api.Guard{Clock: g.Clock, Serial: g.Serial}
	switch a.kind {
	case tick:
		return answer{guard: modelTick(g, a.n)}
	case ask:
		return modelAsk(g)
	case granted:
		return modelGranted(g, a.serial, a.epoch)
	case refused:
		return modelRefused(g, a.serial)
	case yield:
		return answer{guard: let}
	}
	if g.Epoch != 0 && a.epoch > g.Epoch {
		return answer{guard: let}
	}
	return answer{guard: g}
}

// acts are all calls of g with numbers at the edges.
func acts(g api.Guard) []act {
	out := []act{{kind: ask}, {kind: yield}}
	for _, n := range []int64{least, least + 1, -1, 0, 1, 4, 11, 12, end - g.Clock - 1, end - g.Clock, end - g.Clock + 1, end, most} {
		out = append(out, act{kind: tick, n: n})
	}
	epochs := []int64{least, -1, 0, 1, g.Epoch - 1, g.Epoch, g.Epoch + 1, end, end + 1, most}
	for _, epoch := range epochs {
		out = append(out, act{kind: above, epoch: epoch})
	}
	for _, serial := range []int64{least, -1, 0, 1, g.Serial - 1, g.Serial, g.Serial + 1, end, end + 1, most} {
		out = append(out, act{kind: refused, serial: serial})
		for _, epoch := range epochs {
			out = append(out, act{kind: granted, serial: serial, epoch: epoch})
		}
	}
	return out
}

// guards are guards of numbers at the edges: all that may be of these, and many that may not.
func guards() []api.Guard {
	var out []api.Guard
	for _, clock := range []int64{-1, 0, 1, 20, end - 13, end - 12, end - 11, end - 4, end - 1, end, end + 1} {
		untils := []int64{-1, 0, clock - 1, clock, clock + 1, clock + 6, clock + 7, clock + 11, clock + 12, clock + 13, end, end + 1}
		askeds := []int64{-1, 0, clock - 13, clock - 5, clock - 4, clock - 3, clock, clock + 1, end, end + 1}
		for _, until := range untils {
			for _, asked := range askeds {
				for _, epoch := range []int64{-1, 0, 1, 7, end, end + 1} {
					for _, serial := range []int64{-1, 0, 1, end - 1, end, end + 1} {
						for kind := -1; kind <= 3; kind++ {
							out = append(out, api.Guard{Clock: clock, Epoch: epoch, Until: until, Serial: serial, Kind: kind, Asked: asked})
						}
					}
				}
			}
		}
	}
	return out
}

// sound are those of guards that may be.
func sound() []api.Guard {
	return slices.DeleteFunc(guards(), func(g api.Guard) bool { return modelCheck(g) != 0 })
}

func checkAct(t *testing.T, g api.Guard, a act) answer {
	t.Helper()
	got := do(g, a)
	if want := modelDo(g, a); got != want {
		t.Fatalf("of %+v: %+v answers %+v; want %+v", g, a, got, want)
	}
	return got
}

// checkGuard holds the calls that make no other guard against the model.
func checkGuard(t *testing.T, g api.Guard) {
	t.Helper()
	wantCheck(t, g, modelCheck(g))
	wantTold(t, g, modelBelieves(g), modelLeft(g), modelDue(g))
}

func TestModelOfGuards(t *testing.T) {
	for _, g := range guards() {
		checkGuard(t, g)
	}
}

func TestModelOfActs(t *testing.T) {
	l := sound()
	if len(l) < 1000 {
		t.Fatalf("just %d guards may be", len(l))
	}
	for _, g := range l {
		for _, a := range acts(g) {
			next := checkAct(t, g, a).guard
			wantCheck(t, next, api.OK)
		}
	}
}

// someGuard is a guard that may be.
func someGuard(r *rand.Rand) api.Guard {
	for {
		g := api.Guard{Clock: someCount(r), Epoch: someCount(r), Serial: someCount(r), Kind: r.Intn(3)}
		if g.Epoch != 0 {
			g.Until = min(modelTick(g, 12).Clock, max(0, g.Clock+r.Int63n(30)-17))
		}
		if g.Kind != 0 {
			g.Asked = max(0, g.Clock-r.Int63n(10))
		}
		if modelCheck(g) == 0 {
			return g
		}
	}
}

func someCount(r *rand.Rand) int64 {
	switch r.Intn(3) {
	case 0:
		return r.Int63n(4)
	case 1:
		return end - r.Int63n(40)
	}
	return r.Int63n(end)
}

// someAct is an act that mostly has the numbers of g.
func someAct(r *rand.Rand, g api.Guard) act {
	a := act{kind: r.Intn(kinds), n: r.Int63n(6), serial: g.Serial, epoch: max(g.Epoch, 1)}
	switch r.Intn(10) {
	case 0, 1:
		a.epoch += r.Int63n(3)
	case 2:
		a.serial -= r.Int63n(3)
	case 3:
		l := acts(g)
		return l[r.Intn(len(l))]
	case 4:
		a.n = r.Int63n(20)
	}
	return a
}

func TestModelOfManyActs(t *testing.T) {
	r := rand.New(rand.NewSource(141))
	for range 4000 {
		g := guard.New()
		if r.Intn(2) == 0 {
			g = someGuard(r)
		}
		for range 100 {
			g = checkAct(t, g, someAct(r, g)).guard
			checkGuard(t, g)
		}
	}
}

// FuzzActs takes the first six numbers of its bytes as a guard, and each four behind them as an act.
func FuzzActs(f *testing.F) {
	f.Add(pack.Int(nil, 5, 0, 0, 0, 0, 0, ask, 0, 0, 0, tick, 3, 0, 0, granted, 0, 1, 7, tick, 3, 0, 0, ask, 0, 0, 0, granted, 0, 2, 7))
	f.Add(pack.Int(nil, end-1, 7, end, end-1, 2, end-5, ask, 0, 0, 0, tick, 1, 0, 0, ask, 0, 0, 0, refused, 0, end, 0))
	f.Add(pack.Int(nil, 20, 7, 25, 4, 1, 18, above, 0, 0, 8, granted, 0, 4, 8, yield, 0, 0, 0))
	f.Fuzz(func(t *testing.T, b []byte) {
		numbers := make([]int64, 0, len(b))
		for n := range pack.Ints(b) {
			numbers = append(numbers, n)
		}
		if len(numbers) < 6 {
			return
		}
		g := api.Guard{Clock: numbers[0], Epoch: numbers[1], Until: numbers[2], Serial: numbers[3], Kind: int(numbers[4]), Asked: numbers[5]}
		checkGuard(t, g)
		for x := range slices.Chunk(numbers[6:], 4) {
			if len(x) == 4 {
				g = checkAct(t, g, act{kind: int(uint64(x[0]) % kinds), n: x[1], serial: x[2], epoch: x[3]}).guard
				checkGuard(t, g)
				wantCheck(t, g, api.OK)
			}
		}
	})
}
