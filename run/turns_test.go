package run_test

import (
	"math"
	"math/rand"
	"slices"
	"testing"

	"pontoon/api"
	"pontoon/run"
)

const (
	least = math.MinInt
	most  = math.MaxInt
)

// spelt is a record for each letter.
func spelt(word string) []api.Record {
	var out []api.Record
	for i := range len(word) {
		out = append(out, api.Record{Key: int64(word[i]), Val: -int64(word[i])})
	}
	return out
}

func speltAll(words ...string) [][]api.Record {
	var out [][]api.Record
	for _, w := range words {
		out = append(out, spelt(w))
	}
	return out
}

func wantTurns(t *testing.T, turn int, lists [][]api.Record, taken string, then int, counts ...int) {
	t.Helper()
	got, gotThen, gotCounts := run.Turns(turn, lists...)
	if !slices.Equal(got, spelt(taken)) || gotThen != then || !slices.Equal(gotCounts, counts) {
		t.Errorf("Turns(%d, %v) = %v, %d, %v; want %s, %d, %v", turn, lists, got, gotThen, gotCounts, taken, then, counts)
	}
}

func TestExampleTurns(t *testing.T) {
	wantTurns(t, 0, speltAll("abc", "x"), "axb", 1, 2, 1)
}

func TestP81WithoutLists(t *testing.T) {
	for _, turn := range []int{least, -1, 0, 1, 2, most} {
		wantTurns(t, turn, nil, "", turn)
		wantTurns(t, turn, [][]api.Record{}, "", turn)
	}
}

func TestP81ATurnThatIsNoLists(t *testing.T) {
	for _, turn := range []int{least, -3, -2, -1, 3, 4, 6, most} {
		wantTurns(t, turn, speltAll("abc", "xyz", "uv"), "", turn, 0, 0, 0)
	}
	for _, turn := range []int{-1, 1} {
		wantTurns(t, turn, speltAll("abc"), "", turn, 0)
		wantTurns(t, turn, speltAll(""), "", turn, 0)
	}
}

func TestP81FromEachTurnOn(t *testing.T) {
	lists := speltAll("abcd", "xyz", "uvw")
	wantTurns(t, 0, lists, "axubyvczwd", 1, 4, 3, 3)
	wantTurns(t, 1, lists, "xuayvbzwc", 1, 3, 3, 3)
	wantTurns(t, 2, lists, "uaxvbywcz", 2, 3, 3, 3)
}

func TestP81OfOneList(t *testing.T) {
	wantTurns(t, 0, speltAll("abc"), "abc", 0, 3)
	wantTurns(t, 0, speltAll("a"), "a", 0, 1)
	wantTurns(t, 0, [][]api.Record{{}}, "", 0, 0)
	wantTurns(t, 0, [][]api.Record{nil}, "", 0, 0)
}

func TestP81EmptyAndNilLists(t *testing.T) {
	for _, none := range [][]api.Record{nil, {}} {
		for turn := range 3 {
			wantTurns(t, turn, [][]api.Record{none, none, none}, "", turn, 0, 0, 0)
		}
		// Its turn comes with nothing left at the beginning: nothing is taken, and it stays its turn.
		wantTurns(t, 0, [][]api.Record{none, spelt("ab"), spelt("xy")}, "", 0, 0, 0, 0)
		wantTurns(t, 1, [][]api.Record{spelt("ab"), none, spelt("xy")}, "", 1, 0, 0, 0)
		wantTurns(t, 2, [][]api.Record{spelt("ab"), spelt("xy"), none}, "", 2, 0, 0, 0)
		// It comes later in the first round.
		wantTurns(t, 1, [][]api.Record{none, spelt("ab"), spelt("xy")}, "ax", 0, 0, 1, 1)
		wantTurns(t, 2, [][]api.Record{none, spelt("ab"), spelt("xy")}, "x", 0, 0, 0, 1)
		wantTurns(t, 0, [][]api.Record{spelt("ab"), none, spelt("xy")}, "a", 1, 1, 0, 0)
		wantTurns(t, 0, [][]api.Record{spelt("ab"), spelt("xy"), none}, "ax", 2, 1, 1, 0)
	}
}

func TestP81WhichListEndsFirst(t *testing.T) {
	wantTurns(t, 0, speltAll("a", "xyz", "uvw"), "axu", 0, 1, 1, 1)
	wantTurns(t, 0, speltAll("abc", "x", "uvw"), "axub", 1, 2, 1, 1)
	wantTurns(t, 0, speltAll("abc", "xyz", "u"), "axuby", 2, 2, 2, 1)
	wantTurns(t, 1, speltAll("ab", "xyz", "uvw"), "xuayvbzw", 0, 2, 3, 3)
	wantTurns(t, 0, speltAll("abc", "xyz", "uvw"), "axubyvczw", 0, 3, 3, 3)
	wantTurns(t, 0, speltAll("ab", "ab"), "aabb", 0, 2, 2)
	wantTurns(t, 3, speltAll("ab", "cd", "ef", "gh"), "gacehbdf", 3, 2, 2, 2, 2)
	wantTurns(t, 0, speltAll("a", "", "uvwuvw", "x"), "a", 1, 1, 0, 0, 0)
}

// modelTurns does what P8.1 tells, word by word.
func modelTurns(turn int, lists [][]api.Record) ([]api.Record, int, []int) {
	counts := make([]int, len(lists))
	if turn < 0 || turn > len(lists)-1 {
		return nil, turn, counts
	}
	left := slices.Clone(lists)
	var taken []api.Record
	for len(left[turn]) > 0 {
		taken = append(taken, left[turn][0])
		left[turn] = left[turn][1:]
		counts[turn]++
		turn++
		if turn == len(left) {
			turn = 0
		}
	}
	return taken, turn, counts
}

// numbered is that many records, of a list's number and their places.
func numbered(list, count int) []api.Record {
	var out []api.Record
	for place := range count {
		out = append(out, api.Record{Key: int64(list), Val: int64(place)})
	}
	return out
}

func anyLists(r *rand.Rand) [][]api.Record {
	lists := make([][]api.Record, r.Intn(7))
	length := r.Intn(6)
	for i := range lists {
		lists[i] = numbered(i, length+r.Intn(3))
	}
	return lists
}

func TestP81Model(t *testing.T) {
	r := rand.New(rand.NewSource(1))
	for range 20000 {
		lists, turn := anyLists(r), r.Intn(9)-1
		taken, then, counts := run.Turns(turn, lists...)
		want, wantThen, wantCounts := modelTurns(turn, lists)
		if !slices.Equal(taken, want) || then != wantThen || !slices.Equal(counts, wantCounts) {
			t.Fatalf("Turns(%d, %v) = %v, %d, %v; want %v, %d, %v", turn, lists, taken, then, counts, want, wantThen, wantCounts)
		}
	}
}

func TestP85InTurn(t *testing.T) {
	r := rand.New(rand.NewSource(2))
	for range 20000 {
		lists := anyLists(r)
		taken, _, counts := run.Turns(r.Intn(len(lists)+1), lists...)
		all := 0
		for i, l := range lists {
			of := slices.DeleteFunc(slices.Clone(taken), func(x api.Record) bool { return x.Key != int64(i) })
			if len(of) != counts[i] || len(of) > len(l) || !slices.Equal(of, l[:len(of)]) {
				t.Fatalf("of %v %v was taken, and %d counted", l, of, counts[i])
			}
			all += counts[i]
		}
		if all != len(taken) || len(lists) > 0 && slices.Max(counts)-slices.Min(counts) > 1 {
			t.Fatalf("of %v %v was taken, counts %v", lists, taken, counts)
		}
	}
}

// TestP81GoesOn: what is left, taken from the turn on at which it ended, and more, is as if it had been there at the beginning.
func TestP81GoesOn(t *testing.T) {
	r := rand.New(rand.NewSource(3))
	for range 5000 {
		lists := anyLists(r)
		if len(lists) == 0 {
			continue
		}
		first, left := slices.Clone(lists), slices.Clone(lists)
		for i, l := range lists {
			first[i] = l[:r.Intn(len(l)+1)]
		}
		turn := r.Intn(len(lists))
		a, then, counts := run.Turns(turn, first...)
		for i, l := range lists {
			left[i] = l[counts[i]:]
		}
		b, end, more := run.Turns(then, left...)
		want, wantEnd, wantCounts := run.Turns(turn, lists...)
		for i := range counts {
			counts[i] += more[i]
		}
		if !slices.Equal(slices.Concat(a, b), want) || end != wantEnd || !slices.Equal(counts, wantCounts) {
			t.Fatalf("Turns(%d, %v) in two parts: %v and %v, %d, %v; want %v, %d, %v", turn, lists, a, b, end, counts, want, wantEnd, wantCounts)
		}
	}
}

func TestR3Turns(t *testing.T) {
	memory := spelt("abcdefghijkl")
	before := slices.Clone(memory)
	// Lists that stand one behind the other: who writes behind one, writes to the next.
	lists := [][]api.Record{memory[0:4], memory[4:7], memory[7:10]}
	taken, _, counts := run.Turns(1, lists...)
	want := slices.Clone(taken)
	again, _, more := run.Turns(1, lists...)
	scribble(again)
	clear(more[:cap(more)])
	if !slices.Equal(memory, before) || len(lists[0]) != 4 || len(lists[1]) != 3 || len(lists[2]) != 3 {
		t.Errorf("what was handed in is %v, in %v", memory, lists)
	}
	scribble(memory)
	clear(lists)
	if !slices.Equal(taken, want) || !slices.Equal(counts, []int{3, 3, 3}) {
		t.Errorf("what was answered became %v, %v", taken, counts)
	}
	one := spelt("abc")
	taken, _, _ = run.Turns(0, one)
	scribble(taken)
	if !slices.Equal(one, spelt("abc")) {
		t.Errorf("of one list: it is %v", one)
	}
}

// many is how many records the tests of the bound take: with the square of it in steps they would not end.
const many = 1 << 20

func TestBoundTurns(t *testing.T) {
	lists := make([][]api.Record, many)
	for i := range lists {
		lists[i] = numbered(i, 1)
	}
	taken, then, counts := run.Turns(5, lists...)
	if len(taken) != many || then != 5 || len(counts) != many || taken[0].Key != 5 || taken[many-1].Key != 4 {
		t.Errorf("%d taken of many lists, turn %d, %d counts", len(taken), then, len(counts))
	}
	if _, then, counts := run.Turns(0, make([][]api.Record, many)...); then != 0 || len(counts) != many {
		t.Errorf("of many empty lists: turn %d, %d counts", then, len(counts))
	}
	taken, then, counts = run.Turns(1, numbered(0, many), numbered(1, many))
	if len(taken) != 2*many || then != 1 || !slices.Equal(counts, []int{many, many}) {
		t.Errorf("%d taken of two long lists, turn %d, counts %v", len(taken), then, counts)
	}
}
