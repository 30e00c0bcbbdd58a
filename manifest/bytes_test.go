package manifest_test

import (
	"bytes"
	"math/rand"
	"slices"
	"testing"

	"pontoon/api"
	"pontoon/manifest"
)

func TestP173Bytes(t *testing.T) {
	m := api.Manifest{Epoch: 1, Id: 2, Vector: []int64{3, 300}, Out: 4, Begin: 2, Records: []api.Record{rec(5, -6), rec(-7, 8)}, Pieces: []api.Piece{{Len: 9, Sum: 10}, {Len: 11, Sum: 12}, {Len: 64, Sum: 1<<32 - 1}}, Graph: 13}
	wantBytes(t, m, []byte{2, 4, 4, 6, 132, 88, 8, 4, 4, 10, 11, 13, 16, 6, 18, 20, 22, 24, 129, 0, 159, 255, 255, 255, 126, 26})
	m = api.Manifest{Epoch: 1, Id: 1, Vector: []int64{0}}
	wantBytes(t, m, []byte{2, 2, 2, 0, 0, 0, 0, 0, 0})
	m.Graph = 1<<32 - 1
	wantBytes(t, m, []byte{2, 2, 2, 0, 0, 0, 0, 0, 159, 255, 255, 255, 126})
	for _, m := range goodManifests() {
		wantBytes(t, m, manifestForm(m))
	}
}

func TestP173BytesRefused(t *testing.T) {
	for _, m := range badManifests() {
		wantBytesRefused(t, m)
	}
}

// readable tells whether Parse comes to Check with m's form: no Len is below 0 or above what four bytes hold, no list longer than 2^13.
func readable(m api.Manifest) bool {
	if slices.ContainsFunc(m.Pieces, func(p api.Piece) bool { return p.Len < 0 || int64(p.Len) >= wide4 }) {
		return false
	}
	return len(m.Vector) <= 8192 && len(m.Records) <= 8192 && len(m.Pieces) <= 8192
}

// TestP173ParseOfWhatCheckRefuses: all that may not be can be read, and is ErrManifest then; but a Len that is no number of four bytes is ErrShape.
func TestP173ParseOfWhatCheckRefuses(t *testing.T) {
	refused, unread := 0, 0
	for _, m := range badManifests() {
		b := manifestForm(m)
		if readable(m) {
			refused++
			wantParseRefused(t, api.ErrManifest, b)
		} else {
			unread++
			wantParseRefused(t, api.ErrShape, b)
		}
		// The unpacker's error comes ahead of Check's.
		if readable(m) {
			wantParseRefused(t, api.ErrExtra, append(b, 0))
			wantParseRefused(t, api.ErrShort, b[:len(b)-1])
		}
	}
	if refused < 100 || unread < 20 {
		t.Errorf("%d were refused, %d not read: too few", refused, unread)
	}
}

func TestP173ParseOfBytesThatEndEarly(t *testing.T) {
	wantParseRefused(t, api.ErrShort, nil)
	wantParseRefused(t, api.ErrShort, []byte{})
	for _, m := range append(goodManifests()[:60], api.Manifest{}) {
		b := manifestForm(m)
		for size := range b {
			if size > 300 && size < len(b)-300 {
				continue
			}
			wantParseRefused(t, api.ErrShort, b[:size])
		}
	}
}

func TestP173ParseOfBytesBehindTheEnd(t *testing.T) {
	for _, more := range [][]byte{{0}, {1}, {127}, {128}, {255}, {255, 255}, manifestForm(base())} {
		for _, m := range goodManifests() {
			wantParseRefused(t, api.ErrExtra, append(manifestForm(m), more...))
		}
		wantParseRefused(t, api.ErrExtra, append(manifestForm(api.Manifest{}), more...))
	}
}

// TestP173ParseOfNoForms: each number in its turn stands there with a digit 0 ahead of it, or is none of 64 bits.
func TestP173ParseOfNoForms(t *testing.T) {
	words := wordsOf(base())
	for place, n := range words {
		ahead, behind := formOf(words[:place]...), formOf(words[place+1:]...)
		for _, none := range [][]byte{
			append([]byte{128}, numberForm(n)...),
			append([]byte{128, 128}, numberForm(n)...),
			{128},
			{130, 128, 128, 128, 128, 128, 128, 128, 128, 0}, // 2^64
			{129, 255, 255, 255, 255, 255, 255, 255, 255, 255, 0},
		} {
			wantParseRefused(t, api.ErrShape, slices.Concat(ahead, none, behind))
			wantParseRefused(t, api.ErrShape, slices.Concat(ahead, none))
		}
	}
}

// words of base: where the counts stand, and where the numbers of four bytes stand.
var (
	countPlaces = [3]int{2, 7, 14}
	fourPlaces  = [5]int{15, 16, 17, 18, 19}
)

// with is base's numbers with another one at that place.
func with(place int, n int64) []int64 {
	l := wordsOf(base())
	l[place] = n
	return l
}

func TestP173ParseHowMany(t *testing.T) {
	for i, place := range countPlaces {
		words := wordsOf(base())
		if are := []int64{2, 3, 2}[i]; words[place] != are {
			t.Fatalf("%d stands at the place %d; want %d", words[place], place, are)
		}
		for _, n := range []int64{-1, -2, 8193, 8194, 1 << 32, 1<<32 + words[place], end, most, least, -8192} {
			wantParseRefused(t, api.ErrShape, formOf(with(place, n)...))
			wantParseRefused(t, api.ErrShape, formOf(append(words[:place:place], n)...))
		}
		// More than the bytes hold.
		for _, n := range []int64{8192, 8191, 1000, 100} {
			wantParseRefused(t, api.ErrShort, formOf(with(place, n)...))
			wantParseRefused(t, api.ErrShort, formOf(append(words[:place:place], n)...))
		}
		// Others than there are: what stands behind is read as something else.
		for n := range int64(30) {
			wantAsModel(t, formOf(with(place, n)...))
		}
	}
}

// TestP173ParseOfLongLists: lists of 2^13 are read, and Check refuses them; of one item more the number alone is refused.
func TestP173ParseOfLongLists(t *testing.T) {
	for _, n := range []int{4096, 4097, 8191, 8192, 8193, 10_000} {
		for i, m := range []api.Manifest{
			vectorOf(make([]int64, n)...),
			outOf(int64(n), 0, n),
			piecesOf(lens(times(n, 1)...)...),
		} {
			want := api.ErrManifest
			if n > 8192 {
				want = api.ErrShape
			} else if i == 1 && n == 4096 {
				wantParse(t, manifestForm(m), m)
				continue
			}
			wantParseRefused(t, want, manifestForm(m))
			wantBytesRefused(t, m)
		}
	}
}

// TestP173ParseOfFourBytes: Len, Sum and Graph.
func TestP173ParseOfFourBytes(t *testing.T) {
	words := wordsOf(base())
	if !slices.Equal(words[fourPlaces[0]:], []int64{16, 0xdeadbeef, 4, 0, 77}) {
		t.Fatalf("%v stand there", words[fourPlaces[0]:])
	}
	for _, place := range fourPlaces {
		isLen := place == 15 || place == 17
		for _, n := range []int64{0, 1, 4096, 4097, 1<<31 - 1, 1 << 31, 1<<32 - 2, 1<<32 - 1} {
			b := formOf(with(place, n)...)
			if isLen && (n < 1 || n > 4096) {
				wantParseRefused(t, api.ErrManifest, b)
			} else if e := wantAsModel(t, b); e != api.OK {
				t.Errorf("%d at the place %d: the model says %d", n, place, e)
			}
		}
		for _, n := range []int64{-1, -2, 1 << 32, 1<<32 + 1, 1<<32 + 16, 1 << 33, end, most, least} {
			wantParseRefused(t, api.ErrShape, formOf(with(place, n)...))
			wantParseRefused(t, api.ErrShape, formOf(append(words[:place:place], n)...))
		}
	}
}

// TestP173ParseOfAnyNumbers: no other number has bounds of the unpacker's; what is below 0 or above MaxNum is Check's to refuse.
func TestP173ParseOfAnyNumbers(t *testing.T) {
	refused, taken := 0, 0
	for place := range wordsOf(base()) {
		if slices.Contains(countPlaces[:], place) || slices.Contains(fourPlaces[:], place) {
			continue
		}
		for _, n := range []int64{0, -1, 1, 7, 1 << 32, end, end + 1, most, least, -end} {
			switch e := wantAsModel(t, formOf(with(place, n)...)); e {
			case api.OK:
				taken++
			case api.ErrManifest:
				refused++
			default:
				t.Errorf("%d at the place %d: the model says %d", n, place, e)
			}
		}
	}
	if refused < 30 || taken < 60 {
		t.Errorf("%d refused, %d taken: too few", refused, taken)
	}
}

// TestP175OneForm: what Parse takes has just those bytes: whatever is changed in them is refused, or is another manifest.
func TestP175OneForm(t *testing.T) {
	form := manifestForm(base())
	taken := 0
	for at := range form {
		for c := range 256 {
			b := slices.Clone(form)
			b[at] = byte(c)
			m, e := manifest.Parse(b)
			if e != api.OK {
				continue
			}
			taken++
			back, e := manifest.Bytes(m)
			if e != api.OK || !bytes.Equal(back, b) {
				t.Fatalf("Parse takes %v, and Bytes of that is %v, %d", b, back, e)
			}
			if manifest.Same(m, base()) != (b[at] == form[at]) {
				t.Fatalf("Same of what Parse makes of %v", b)
			}
		}
	}
	if taken < 1000 {
		t.Errorf("%d taken: too few", taken)
	}
}

// TestP175EachNumber: each number that a manifest may have, in each place that may have it.
func TestP175EachNumber(t *testing.T) {
	for bits := range 64 {
		for _, n := range []int64{1 << bits, 1<<bits - 1, -1 << bits, -1<<bits - 1, 1<<bits + 1} {
			m := base()
			m.Records[0], m.Records[2] = rec(n, -n), rec(-n, n)
			m.Graph, m.Pieces[0].Sum = uint32(n), uint32(-n)
			if n >= 0 && n <= end {
				m.Epoch, m.Id, m.Vector[0], m.Vector[1] = max(n, 1), max(end-n, 1), n, end-n
				m.Out, m.Begin = max(n, 3), max(n, 3)-3
				m.Pieces[0].Len = int(min(max(n, 1), 4096))
			}
			wantBytes(t, m, manifestForm(m))
		}
	}
}

// damaged is b with some bytes changed, put in or cut off.
func damaged(r *rand.Rand, b []byte) []byte {
	b = slices.Clone(b)
	for range r.Intn(3) {
		at := r.Intn(len(b))
		switch r.Intn(4) {
		case 0:
			b = b[:at+1]
		case 1:
			b = slices.Insert(b, at, byte(r.Intn(256)))
		default:
			b[at] = byte(r.Intn(256))
		}
	}
	return b
}

func TestP173AsModel(t *testing.T) {
	r := rand.New(rand.NewSource(173))
	seen := map[api.Errno]int{}
	for range 50_000 {
		m := nearBounds(r)
		if check(m) == api.OK {
			wantBytes(t, m, manifestForm(m))
		} else {
			wantBytesRefused(t, m)
		}
		seen[wantAsModel(t, damaged(r, manifestForm(m)))]++
		if t.Failed() {
			return
		}
	}
	for _, e := range []api.Errno{api.OK, api.ErrShort, api.ErrShape, api.ErrExtra, api.ErrManifest} {
		if seen[e] < 100 {
			t.Errorf("Parse answered %v: too few of %d", seen, e)
		}
	}
}

func FuzzParse(f *testing.F) {
	f.Add(manifestForm(base()))
	f.Add(manifestForm(api.Manifest{}))
	f.Add([]byte{2, 2, 2, 0, 0, 0, 0, 0, 0})
	f.Fuzz(func(t *testing.T, b []byte) {
		wantAsModel(t, b)
	})
}
