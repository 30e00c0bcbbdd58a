package frame_test

import (
	"bytes"
	"hash/crc32"
	"math/rand"
	"slices"
	"testing"

	"pontoon/api"
	"pontoon/frame"
)

// sumOf is the sum bit by bit, as the chapter tells it.
func sumOf(b []byte) uint32 {
	rest := uint32(0xffffffff)
	for _, c := range b {
		for bit := 0; bit < 8; bit++ {
			other := uint32(c>>bit)&1 != rest&1
			rest >>= 1
			if other {
				rest ^= 0x82f63b78
			}
		}
	}
	return rest ^ 0xffffffff
}

// fourOf is a number of four bytes.
func fourOf(n uint32) []byte {
	var out []byte
	for i := 0; i < 4; i++ {
		out = append(out, byte(n%256))
		n /= 256
	}
	return out
}

// headOf is a length and its sum.
func headOf(length uint32) []byte {
	four := fourOf(length)
	return slices.Concat(four, fourOf(sumOf(four)))
}

// frameOf is a frame as the chapter tells it, of a load of any length.
func frameOf(load []byte) []byte {
	return slices.Concat(headOf(uint32(len(load))), load, fourOf(sumOf(load)))
}

func framesOf(loads [][]byte) []byte {
	var out []byte
	for _, load := range loads {
		out = append(out, frameOf(load)...)
	}
	return out
}

// takeOf does what P2.2 tells, word by word.
func takeOf(b []byte) ([]byte, int, api.Errno) {
	if len(b) < 8 {
		return nil, 0, api.ErrCut
	}
	length := int64(0)
	for i := 3; i >= 0; i-- {
		length = length*256 + int64(b[i])
	}
	if !bytes.Equal(b[4:8], fourOf(sumOf(b[:4]))) || length > 262144 {
		return nil, 0, api.ErrFrame
	}
	if int64(len(b)) < length+12 {
		return nil, 0, api.ErrCut
	}
	load := b[8 : 8+length]
	if !bytes.Equal(b[8+length:12+length], fourOf(sumOf(load))) {
		return nil, 0, api.ErrFrame
	}
	return load, int(length + 12), api.OK
}

// scanOf does what P2.3 tells of Scan, with the place behind each frame.
func scanOf(b []byte) (loads [][]byte, ends []int, e api.Errno) {
	at := 0
	for at < len(b) {
		load, size, e := takeOf(b[at:])
		if e != api.OK {
			return loads, ends, e
		}
		at += size
		loads, ends = append(loads, load), append(ends, at)
	}
	return loads, ends, api.OK
}

func lastOf(ends []int) int {
	if len(ends) == 0 {
		return 0
	}
	return ends[len(ends)-1]
}

func sameLoads(a, b [][]byte) bool {
	return slices.EqualFunc(a, b, bytes.Equal)
}

// bytesOf are n bytes that look like nothing.
func bytesOf(r *rand.Rand, n int) []byte {
	b := make([]byte, n)
	r.Read(b)
	return b
}

// someLoads are short loads, some of no bytes, first, in between and last.
func someLoads() [][]byte {
	return [][]byte{nil, []byte("abc"), {}, {0}, {0, 0, 0, 0}, []byte("a load of some bytes"), {255, 255, 255, 255, 255}, nil}
}

// checkScan holds Take, All and Scan of b against the chapter's words.
func checkScan(t *testing.T, b []byte) {
	t.Helper()
	kept := bytes.Clone(b)
	load, size, e := frame.Take(b)
	if wantLoad, wantSize, want := takeOf(b); !bytes.Equal(load, wantLoad) || size != wantSize || e != want || e != api.OK && load != nil {
		t.Fatalf("Take(%v) = %v, %d, %d; want %v, %d, %d", b, load, size, e, wantLoad, wantSize, want)
	}
	wantLoads, wantEnds, want := scanOf(b)
	loads, at, e := frame.Scan(b)
	if !sameLoads(loads, wantLoads) || at != lastOf(wantEnds) || e != want {
		t.Fatalf("Scan(%v) = %v, %d, %d; want %v, %d, %d", b, loads, at, e, wantLoads, lastOf(wantEnds), want)
	}
	var told [][]byte
	var ends []int
	for end, load := range frame.All(b) {
		told, ends = append(told, load), append(ends, end)
	}
	if !sameLoads(told, wantLoads) || !slices.Equal(ends, wantEnds) {
		t.Fatalf("All(%v) = %v, %v; want %v, %v", b, ends, told, wantEnds, wantLoads)
	}
	if !bytes.Equal(b, kept) {
		t.Fatalf("%v became %v", kept, b)
	}
}

func TestP21SumExamples(t *testing.T) {
	for _, c := range []struct {
		in   string
		want uint32
	}{
		{"123456789", 0xe3069283},
		{"", 0},
		{"\x00\x00\x00\x00", 0x48674bc7},
		{string(make([]byte, 32)), 0x8a9136aa},
		{string(bytes.Repeat([]byte{255}, 32)), 0x62a8ab43},
	} {
		if got := frame.Sum([]byte(c.in)); got != c.want {
			t.Errorf("Sum(%q) = %08x, want %08x", c.in, got, c.want)
		}
	}
}

func TestP21Sum(t *testing.T) {
	for i := 0; i < 256; i++ {
		for _, b := range [][]byte{{byte(i)}, {0, byte(i)}, {byte(i), 0}, {byte(i), byte(i), byte(255 - i)}} {
			if got, want := frame.Sum(b), sumOf(b); got != want {
				t.Errorf("Sum(%v) = %08x, want %08x", b, got, want)
			}
		}
	}
	r := rand.New(rand.NewSource(1))
	for n := 0; n < 600; n++ {
		b := bytesOf(r, n)
		if got, want := frame.Sum(b), sumOf(b); got != want {
			t.Errorf("Sum(%v) = %08x, want %08x", b, got, want)
		}
	}
	long := bytesOf(r, 1<<20)
	if got, want := frame.Sum(long), crc32.Checksum(long, crc32.MakeTable(crc32.Castagnoli)); got != want {
		t.Errorf("Sum of a long text = %08x, want %08x", got, want)
	}
}

func TestP21MakeExample(t *testing.T) {
	want := []byte{0, 0, 0, 0, 199, 75, 103, 72, 0, 0, 0, 0}
	for _, load := range [][]byte{nil, {}} {
		if got, e := frame.Make(load); e != api.OK || !bytes.Equal(got, want) {
			t.Errorf("Make(%v) = %v, %d", load, got, e)
		}
	}
}

func TestP21Make(t *testing.T) {
	r := rand.New(rand.NewSource(2))
	for _, n := range []int{0, 1, 2, 3, 4, 5, 8, 255, 256, 257, 65535, 65536, 65537, api.MaxFrame - 1, api.MaxFrame} {
		load := bytesOf(r, n)
		if got, e := frame.Make(load); e != api.OK || !bytes.Equal(got, frameOf(load)) {
			t.Errorf("Make of %d bytes: %d, %d bytes", n, e, len(got))
		}
	}
	for _, n := range []int{api.MaxFrame + 1, api.MaxFrame + 2, 2 * api.MaxFrame, 1 << 24} {
		if got, e := frame.Make(make([]byte, n)); e != api.ErrLong || got != nil {
			t.Errorf("Make of %d bytes: %d, %d bytes", n, e, len(got))
		}
	}
}

func TestP21Put(t *testing.T) {
	for _, ahead := range [][]byte{nil, {}, {9}, []byte("what stood there"), frameOf([]byte("x"))} {
		for n := 0; n <= len(someLoads()); n++ {
			loads := someLoads()[:n]
			got, e := frame.Put(ahead, loads...)
			if e != api.OK || !bytes.Equal(got, slices.Concat(ahead, framesOf(loads))) {
				t.Errorf("Put(%v, %v) = %v, %d", ahead, loads, got, e)
			}
		}
	}
	full := make([]byte, api.MaxFrame)
	if got, e := frame.Put([]byte{1, 2}, full, full); e != api.OK || !bytes.Equal(got, slices.Concat([]byte{1, 2}, frameOf(full), frameOf(full))) {
		t.Errorf("Put of two full loads: %d, %d bytes", e, len(got))
	}
	// What stands ahead has no bound of its own.
	ahead := make([]byte, 2*api.MaxFrame)
	if got, e := frame.Put(ahead, nil); e != api.OK || !bytes.Equal(got, append(ahead, frameOf(nil)...)) {
		t.Errorf("Put behind much: %d, %d bytes", e, len(got))
	}
}

func TestP21PutLong(t *testing.T) {
	long := make([]byte, api.MaxFrame+1)
	for at := 0; at < 4; at++ {
		loads := [][]byte{[]byte("a"), nil, []byte("b"), []byte("c")}
		loads[at] = long
		if got, e := frame.Put([]byte{9}, loads...); e != api.ErrLong || got != nil {
			t.Errorf("Put with load %d too long = %v, %d", at, got, e)
		}
	}
}

func TestP22Take(t *testing.T) {
	whole := frameOf([]byte("abc"))
	empty := frameOf(nil)
	damaged := func(at int) []byte {
		b := bytes.Clone(whole)
		b[at] ^= 16
		return b
	}
	for _, c := range []struct {
		name string
		in   []byte
		load string
		size int
		e    api.Errno
	}{
		{"nothing", nil, "", 0, api.ErrCut},
		{"seven bytes", whole[:7], "", 0, api.ErrCut},
		{"seven bytes that begin no frame", []byte{1, 2, 3, 4, 5, 6, 7}, "", 0, api.ErrCut},
		{"eight bytes", whole[:8], "", 0, api.ErrCut},
		{"eight bytes that begin no frame", []byte{1, 2, 3, 4, 5, 6, 7, 8}, "", 0, api.ErrFrame},
		{"eight bytes of zero", make([]byte, 8), "", 0, api.ErrFrame},
		{"one byte too few", whole[:14], "", 0, api.ErrCut},
		{"a frame", whole, "abc", 15, api.OK},
		{"a frame and a byte", append(bytes.Clone(whole), 7), "abc", 15, api.OK},
		{"two frames", slices.Concat(whole, empty), "abc", 15, api.OK},
		{"an empty load", empty, "", 12, api.OK},
		{"an empty load, cut", empty[:11], "", 0, api.ErrCut},
		{"a length turned", damaged(0), "", 0, api.ErrFrame},
		{"a length's sum turned", damaged(7), "", 0, api.ErrFrame},
		{"a length turned, the load cut", damaged(3)[:9], "", 0, api.ErrFrame},
		{"a load turned", damaged(8), "", 0, api.ErrFrame},
		{"a load turned, cut", damaged(8)[:14], "", 0, api.ErrCut},
		{"a load's sum turned", damaged(14), "", 0, api.ErrFrame},
	} {
		load, size, e := frame.Take(c.in)
		if string(load) != c.load || size != c.size || e != c.e {
			t.Errorf("%s: Take = %q, %d, %d; want %q, %d, %d", c.name, load, size, e, c.load, c.size, c.e)
		}
		if e != api.OK && load != nil {
			t.Errorf("%s: a load beside an error", c.name)
		}
	}
}

func TestP22TakeLong(t *testing.T) {
	for _, length := range []uint32{api.MaxFrame + 1, api.MaxFrame + 2, 1 << 19, 1<<31 - 1, 1 << 31, 1<<32 - 13, 1<<32 - 12, 1<<32 - 1} {
		for _, behind := range []int{0, 4, 100} {
			b := append(headOf(length), make([]byte, behind)...)
			if load, size, e := frame.Take(b); load != nil || size != 0 || e != api.ErrFrame {
				t.Errorf("Take of length %d = %v, %d, %d", length, load, size, e)
			}
		}
	}
	whole := frameOf(make([]byte, api.MaxFrame+1))
	if load, size, e := frame.Take(whole); load != nil || size != 0 || e != api.ErrFrame {
		t.Errorf("Take of a frame that is whole, but too long = %d bytes, %d, %d", len(load), size, e)
	}
	most := bytesOf(rand.New(rand.NewSource(3)), api.MaxFrame)
	whole = frameOf(most)
	if load, size, e := frame.Take(whole); !bytes.Equal(load, most) || size != api.MaxFrame+12 || e != api.OK {
		t.Errorf("Take of a full frame = %d bytes, %d, %d", len(load), size, e)
	}
	for _, cut := range []int{8, 9, 12, api.MaxFrame + 8, api.MaxFrame + 11} {
		if load, size, e := frame.Take(whole[:cut]); load != nil || size != 0 || e != api.ErrCut {
			t.Errorf("Take of a full frame's first %d = %d bytes, %d, %d", cut, len(load), size, e)
		}
	}
}

func TestP23ScanOfNothing(t *testing.T) {
	for _, b := range [][]byte{nil, {}} {
		if loads, at, e := frame.Scan(b); len(loads) != 0 || at != 0 || e != api.OK {
			t.Errorf("Scan(%v) = %v, %d, %d", b, loads, at, e)
		}
		for end, load := range frame.All(b) {
			t.Errorf("All(%v) tells %d, %v", b, end, load)
		}
	}
}

func TestP23WhereItEnds(t *testing.T) {
	whole := framesOf(someLoads())
	damaged := frameOf([]byte("abc"))
	damaged[9]++
	for _, c := range []struct {
		name   string
		behind []byte
		e      api.Errno
	}{
		{"nothing", nil, api.OK},
		{"a byte", []byte{0}, api.ErrCut},
		{"seven bytes", []byte("1234567"), api.ErrCut},
		{"eight bytes", []byte("12345678"), api.ErrFrame},
		{"a frame that is too long", headOf(api.MaxFrame + 1), api.ErrFrame},
		{"a damaged frame", damaged, api.ErrFrame},
		{"a damaged frame and a whole one", slices.Concat(damaged, frameOf(nil)), api.ErrFrame},
		{"a cut frame", frameOf([]byte("abc"))[:11], api.ErrCut},
	} {
		for _, ahead := range [][]byte{nil, whole} {
			b := slices.Concat(ahead, c.behind)
			checkScan(t, b)
			var want [][]byte
			if ahead != nil {
				want = someLoads()
			}
			if loads, at, e := frame.Scan(b); !sameLoads(loads, want) || at != len(ahead) || e != c.e {
				t.Errorf("%s: Scan = %v, %d, %d", c.name, loads, at, e)
			}
		}
	}
}

func TestP23AllIsLeftAndDoneAgain(t *testing.T) {
	loads := someLoads()
	all := frame.All(framesOf(loads))
	for stop := 0; stop <= len(loads); stop++ {
		var told [][]byte
		for _, load := range all {
			if len(told) == stop {
				break
			}
			told = append(told, load)
		}
		if !sameLoads(told, loads[:stop]) {
			t.Errorf("left behind %d: %v", stop, told)
		}
	}
	// One range inside another has a place of its own.
	pairs := 0
	for range all {
		for range all {
			pairs++
		}
	}
	if pairs != len(loads)*len(loads) {
		t.Errorf("%d pairs", pairs)
	}
}

func TestP24ThereAndBack(t *testing.T) {
	r := rand.New(rand.NewSource(4))
	for round := 0; round < 200; round++ {
		loads := make([][]byte, r.Intn(12))
		for i := range loads {
			loads[i] = bytesOf(r, r.Intn(3)*r.Intn(100))
		}
		ahead := bytesOf(r, r.Intn(20))
		b, e := frame.Put(ahead, loads...)
		if e != api.OK || !bytes.HasPrefix(b, ahead) {
			t.Fatalf("Put: %d", e)
		}
		got, at, e := frame.Scan(b[len(ahead):])
		if !sameLoads(got, loads) || at != len(b)-len(ahead) || e != api.OK {
			t.Fatalf("Scan of Put of %v = %v, %d, %d", loads, got, at, e)
		}
		for _, load := range loads {
			one, _ := frame.Make(load)
			if back, size, e := frame.Take(one); !bytes.Equal(back, load) || size != len(load)+api.FrameLen || e != api.OK {
				t.Fatalf("Take of Make of %v = %v, %d, %d", load, back, size, e)
			}
		}
	}
	most := bytesOf(r, api.MaxFrame)
	b, _ := frame.Put(nil, most, nil, most)
	if got, at, e := frame.Scan(b); !sameLoads(got, [][]byte{most, nil, most}) || at != len(b) || e != api.OK {
		t.Errorf("Scan of full frames: %d of them, %d, %d", len(got), at, e)
	}
}

func TestP25Torn(t *testing.T) {
	loads := someLoads()
	b := framesOf(loads)
	_, ends, _ := scanOf(b)
	for cut := 0; cut <= len(b); cut++ {
		whole := 0
		for whole < len(ends) && ends[whole] <= cut {
			whole++
		}
		want := api.ErrCut
		if cut == lastOf(ends[:whole]) {
			want = api.OK
		}
		got, at, e := frame.Scan(b[:cut])
		if !sameLoads(got, loads[:whole]) || at != lastOf(ends[:whole]) || e != want {
			t.Errorf("Scan of the first %d = %v, %d, %d", cut, got, at, e)
		}
		checkScan(t, b[:cut:cut])
	}
}

// turn turns the bits of b at which pattern has a 1, from bit at on.
func turn(b []byte, at int, pattern uint32) []byte {
	out := bytes.Clone(b)
	for i := 0; i < 32; i++ {
		if pattern>>i&1 == 1 && at+i < 8*len(b) {
			out[(at+i)/8] ^= 1 << ((at + i) % 8)
		}
	}
	return out
}

// checkDamage: a burst from bit at on, of frames that end at these places.
func checkDamage(t *testing.T, b []byte, loads [][]byte, ends []int, at int, pattern uint32) {
	t.Helper()
	hit := 0
	for ends[hit] <= at/8 {
		hit++
	}
	got, place, e := frame.Scan(turn(b, at, pattern))
	if !sameLoads(got, loads[:hit]) || place != lastOf(ends[:hit]) || e != api.ErrFrame && e != api.ErrCut {
		t.Fatalf("%08x turned from bit %d on: %v, %d, %d", pattern, at, got, place, e)
	}
}

func TestP26EachBit(t *testing.T) {
	loads := someLoads()
	b := framesOf(loads)
	_, ends, _ := scanOf(b)
	for at := 0; at < 8*len(b); at++ {
		checkDamage(t, b, loads, ends, at, 1)
		checkScan(t, turn(b, at, 1))
	}
}

func TestP26Bursts(t *testing.T) {
	loads := someLoads()
	b := framesOf(loads)
	_, ends, _ := scanOf(b)
	r := rand.New(rand.NewSource(5))
	for at := 0; at < 8*len(b); at++ {
		// A pattern's lowest bit is where the burst begins.
		patterns := []uint32{0xffffffff, 0x80000001, 0x82f63b79, 0x05ec76f1, 0xff, 0xffff, 0x01010101}
		for bit := 1; bit < 32; bit++ {
			patterns = append(patterns, 1|1<<bit, 2<<bit-1)
		}
		for len(patterns) < 120 {
			patterns = append(patterns, r.Uint32()|1)
		}
		for _, p := range patterns {
			checkDamage(t, b, loads, ends, at, p)
		}
	}
}

func TestP26BurstsOfAFullFrame(t *testing.T) {
	r := rand.New(rand.NewSource(6))
	loads := [][]byte{[]byte("ahead"), bytesOf(r, api.MaxFrame), []byte("behind")}
	b := framesOf(loads)
	_, ends, _ := scanOf(b)
	for round := 0; round < 60; round++ {
		checkDamage(t, b, loads, ends, r.Intn(8*len(b)), r.Uint32()|1)
	}
	for _, end := range ends {
		for back := 1; back <= 32; back += 3 {
			checkDamage(t, b, loads, ends, 8*end-back, r.Uint32()|1)
		}
	}
}

func TestR1AnyBytes(t *testing.T) {
	r := rand.New(rand.NewSource(7))
	for round := 0; round < 3000; round++ {
		b := bytesOf(r, r.Intn(40))
		if round%2 == 0 {
			// A right head, and whatever behind it.
			b = append(headOf(uint32(r.Intn(40))), b...)
		}
		checkScan(t, b)
	}
}

func TestR3PutLeavesWhatItIsGiven(t *testing.T) {
	memory := []byte("ahead and behind it")
	kept := bytes.Clone(memory)
	load := []byte("load")
	loads := [][]byte{load, load[:0], load[1:2]}
	got, _ := frame.Put(memory[:5], loads...)
	want := bytes.Clone(got)
	if !bytes.Equal(memory, kept) || string(load) != "load" {
		t.Errorf("Put wrote: %q, %q", memory, load)
	}
	for i := range got {
		got[i] = 0xee
	}
	_ = append(got, 1, 2, 3)
	if !bytes.Equal(memory, kept) || string(load) != "load" || !sameLoads(loads, [][]byte{[]byte("load"), nil, []byte("o")}) {
		t.Errorf("Put's answer shares memory: %q, %q", memory, load)
	}
	again, _ := frame.Put(memory[:5], loads...)
	if !bytes.Equal(again, want) {
		t.Errorf("Put again = %v, want %v", again, want)
	}
	// No load, so nothing grows: the answer is still nobody's else.
	same, _ := frame.Put(memory)
	same[0]++
	if !bytes.Equal(memory, kept) {
		t.Error("Put of no loads answers b itself")
	}
	one, _ := frame.Make(load)
	for i := range one {
		one[i] = 0
	}
	if string(load) != "load" {
		t.Error("Make's answer shares memory")
	}
}

func TestR3TakeAndScanAnswerTheirOwn(t *testing.T) {
	loads := [][]byte{[]byte("abc"), []byte("defg"), nil, []byte("h")}
	b := framesOf(loads)
	kept := bytes.Clone(b)
	load, _, _ := frame.Take(b)
	spoil(load)
	got, _, _ := frame.Scan(b)
	for i := range got {
		spoil(got[i])
		if i+1 < len(got) && !bytes.Equal(got[i+1], loads[i+1]) {
			t.Errorf("load %d shares memory with the one ahead", i+1)
		}
	}
	if !bytes.Equal(b, kept) {
		t.Error("a load shares memory with what was handed in")
	}
	got, _, _ = frame.Scan(b)
	clear(b)
	if !sameLoads(got, loads) {
		t.Errorf("loads change with what was handed in: %v", got)
	}
}

// spoil writes to all of a load's memory.
func spoil(load []byte) {
	load = load[:cap(load)]
	for i := range load {
		load[i] = 0xee
	}
}

func TestR3AllTellsWhatWasThere(t *testing.T) {
	loads := [][]byte{[]byte("abc"), nil, []byte("defg")}
	b := framesOf(loads)
	all := frame.All(b)
	clear(b)
	for range 2 {
		n := 0
		for _, load := range all {
			if !bytes.Equal(load, loads[n]) {
				t.Errorf("load %d is %v", n, load)
			}
			spoil(load)
			n++
		}
		if n != len(loads) {
			t.Errorf("%d loads", n)
		}
	}
	if slices.ContainsFunc(b, func(c byte) bool { return c != 0 }) {
		t.Error("All's loads share memory with what was handed in")
	}
	// What is written while it is ranged over does not count either.
	b = framesOf(loads)
	n := 0
	for range frame.All(b) {
		clear(b)
		n++
	}
	if n != len(loads) {
		t.Errorf("%d loads, when written to on the way", n)
	}
}

func TestR4EmptyAndNil(t *testing.T) {
	a, _ := frame.Put(nil, nil)
	b, _ := frame.Put([]byte{}, []byte{})
	if !bytes.Equal(a, b) || frame.Sum(nil) != frame.Sum([]byte{}) {
		t.Errorf("%v, %v", a, b)
	}
	for _, loads := range [][][]byte{nil, {}} {
		if got, e := frame.Put(nil, loads...); len(got) != 0 || e != api.OK {
			t.Errorf("Put of nothing = %v, %d", got, e)
		}
	}
	for _, in := range [][]byte{nil, {}} {
		if load, size, e := frame.Take(in); load != nil || size != 0 || e != api.ErrCut {
			t.Errorf("Take(%v) = %v, %d, %d", in, load, size, e)
		}
	}
}

// Were one of these calls quadratic, it would not end within the test's time.
func TestBoundManyFrames(t *testing.T) {
	loads := make([][]byte, 400000)
	b, e := frame.Put(nil, loads...)
	if e != api.OK || len(b) != 12*len(loads) {
		t.Fatalf("Put: %d bytes, %d", len(b), e)
	}
	if got, at, e := frame.Scan(b); len(got) != len(loads) || at != len(b) || e != api.OK {
		t.Errorf("Scan: %d loads, %d, %d", len(got), at, e)
	}
	n := 0
	for range frame.All(b) {
		n++
	}
	if n != len(loads) {
		t.Errorf("All: %d loads", n)
	}
	// Take looks at its own frame alone, however much stands behind it.
	for range len(loads) {
		if _, size, _ := frame.Take(b); size != 12 {
			t.Fatalf("Take: %d", size)
		}
	}
}

func FuzzScan(f *testing.F) {
	f.Add([]byte(nil))
	f.Add(framesOf(someLoads()))
	f.Add(headOf(api.MaxFrame + 1))
	f.Fuzz(func(t *testing.T, b []byte) {
		checkScan(t, b)
		// Bytes alone seldom make a frame: take them as loads, too.
		half := len(b) / 2
		put, _ := frame.Put(b[:half], b[half:], b[:half])
		checkScan(t, put[half:])
		checkScan(t, put[half:max(half, len(put)-half)])
	})
}

func BenchmarkSum(b *testing.B) {
	load := make([]byte, api.MaxFrame)
	b.SetBytes(int64(len(load)))
	for b.Loop() {
		frame.Sum(load)
	}
}
