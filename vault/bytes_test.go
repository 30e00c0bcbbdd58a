package vault_test

import (
	"bytes"
	"reflect"
	"slices"
	"testing"

	"pontoon/api"
	"pontoon/vault"
)

// odd are numbers of all kinds.
func odd() []int64 {
	return []int64{least, least + 1, -end - 1, -end, -8193, -65, -64, -1, 0, 1, 63, 64, 8192, 8193, end - 1, end, end + 1, most - 1, most}
}

// someTxns are transactions of all kinds, most of which no sink would take.
func someTxns() []api.Txn {
	l := []api.Txn{{}, {Records: []api.Record{}, Vector: []int64{}}, txn(1, 2, 3, 3), txn(1, 2, 3, 4, 5), txn(5, 4, 6, 8, 12, 20), txn(1, 1, 0, 200, 1, 2, 3, 4, 5, 6, 7)}
	for _, n := range odd() {
		l = append(l, api.Txn{Epoch: n}, api.Txn{Id: n}, api.Txn{Begin: n}, api.Txn{Vector: []int64{n}}, api.Txn{Vector: []int64{7, n, 7}},
			api.Txn{Records: []api.Record{{Key: n}}}, api.Txn{Records: []api.Record{{Val: n}}}, api.Txn{Records: []api.Record{{Key: n, Val: 1}, {Key: 2, Val: n}, {Key: 3, Val: 4}}})
	}
	return l
}

// someSinks are sinks of all kinds, most of which may not be.
func someSinks() []api.Sink {
	l := []api.Sink{{}, {Out: []api.Record{}, Vector: []int64{}, Done: []int64{}, Pre: []api.Txn{}}, blank(1), blank(4), used(), {Pre: make([]api.Txn, 9)}, {Done: []int64{3, 2, 2}}}
	for _, n := range odd() {
		l = append(l, api.Sink{Fence: n}, api.Sink{Vector: []int64{n}}, api.Sink{Vector: []int64{1, n, 2}}, api.Sink{Done: []int64{n}}, api.Sink{Done: []int64{1, n, n}},
			api.Sink{Out: []api.Record{{Key: n}}}, api.Sink{Out: []api.Record{{Val: n}, {Key: 1, Val: 2}}}, api.Sink{Pre: []api.Txn{{Epoch: n}}})
	}
	return append(l, api.Sink{Fence: 1, Pre: someTxns()})
}

// sizes are lists' lengths about the greatest that is parsed.
func sizes() []int {
	return []int{8191, 8192, 8193}
}

// longTxns are transactions with a list of n.
func longTxns(n int) []api.Txn {
	ints := make([]int64, n)
	for i := range ints {
		ints[i] = int64(i) - 7
	}
	return []api.Txn{{Epoch: 3, Records: places(0, int64(n)), Vector: []int64{1}}, {Epoch: 3, Records: places(0, 2), Vector: ints}}
}

// longSinks are sinks with a list of n.
func longSinks(n int) []api.Sink {
	x := longTxns(n)
	l := []api.Sink{{Out: x[0].Records, Done: []int64{1}}, {Vector: x[1].Vector, Done: []int64{1}}, {Vector: []int64{1}, Done: x[1].Vector}, {Fence: 1, Pre: make([]api.Txn, n)}}
	return append(l, api.Sink{Pre: []api.Txn{txn(1, 1, 1, 1), x[0]}}, api.Sink{Pre: []api.Txn{x[1], txn(1, 1, 1, 1)}})
}

func wantTxn(t *testing.T, b []byte, x api.Txn, e api.Errno) {
	t.Helper()
	if got, err := vault.ParseTxn(b); err != e || e != api.OK && !reflect.DeepEqual(got, api.Txn{}) || !reflect.DeepEqual(copiedTxn(got), copiedTxn(x)) {
		t.Fatalf("ParseTxn(%s) = %s, %d; want %s, %d", short(b), short(got), err, short(x), e)
	}
}

func wantSink(t *testing.T, b []byte, p api.Sink, e api.Errno) {
	t.Helper()
	if got, err := vault.ParseSink(b); err != e || e != api.OK && !reflect.DeepEqual(got, api.Sink{}) || !reflect.DeepEqual(copied(got), copied(p)) {
		t.Fatalf("ParseSink(%s) = %s, %d; want %s, %d", short(b), short(got), err, short(p), e)
	}
}

func TestP161TxnBytes(t *testing.T) {
	for n, want := range map[*api.Txn][]byte{
		{}: {0, 0, 0, 0, 0},
		{Epoch: 1, Id: 2, Begin: 3, Records: []api.Record{{Key: 4, Val: -5}}, Vector: []int64{6, -7}}:                                      {2, 4, 6, 2, 8, 9, 4, 12, 13},
		{Epoch: 300, Id: -1, Begin: 64, Records: []api.Record{{Key: 1, Val: 2}, {Key: 3, Val: 4}, {Key: 5, Val: 6}}, Vector: []int64{-64}}: {132, 88, 1, 129, 0, 6, 2, 4, 6, 8, 10, 12, 2, 127},
	} {
		if got := vault.TxnBytes(*n); !bytes.Equal(got, want) {
			t.Errorf("TxnBytes(%+v) = %v; want %v", *n, got, want)
		}
	}
	for _, x := range someTxns() {
		if got := vault.TxnBytes(x); !bytes.Equal(got, forms(wordsTxn(x)...)) {
			t.Errorf("TxnBytes(%s) = %s", short(x), short(got))
		}
	}
	for _, n := range append(sizes(), 20000) {
		for _, x := range longTxns(n) {
			if got := vault.TxnBytes(x); !bytes.Equal(got, forms(wordsTxn(x)...)) {
				t.Errorf("TxnBytes(%s) = %s", short(x), short(got))
			}
		}
	}
}

func TestP161SinkBytes(t *testing.T) {
	for p, want := range map[*api.Sink][]byte{
		{}: {0, 0, 0, 0, 0},
		{Fence: 1, Out: []api.Record{{Key: 2, Val: 3}}, Vector: []int64{4, 5}, Done: []int64{6, 7, 8}}:                {2, 2, 4, 6, 4, 8, 10, 6, 12, 14, 16, 0},
		{Fence: -1, Pre: []api.Txn{{Epoch: 1}, {Id: 1, Records: []api.Record{{Key: 3, Val: 4}}, Vector: []int64{5}}}}: {1, 0, 0, 0, 4, 2, 0, 0, 0, 0, 0, 2, 0, 2, 6, 8, 2, 10},
	} {
		if got := vault.SinkBytes(*p); !bytes.Equal(got, want) {
			t.Errorf("SinkBytes(%+v) = %v; want %v", *p, got, want)
		}
	}
	for _, p := range someSinks() {
		if got := vault.SinkBytes(p); !bytes.Equal(got, forms(wordsSink(p)...)) {
			t.Errorf("SinkBytes(%s) = %s", short(p), short(got))
		}
	}
	for _, n := range append(sizes(), 20000) {
		for _, p := range longSinks(n) {
			if got := vault.SinkBytes(p); !bytes.Equal(got, forms(wordsSink(p)...)) {
				t.Errorf("SinkBytes(%s) = %s", short(p), short(got))
			}
		}
	}
}

// TestP161P168ThereAndBack: what the bytes were made of is what is parsed, lists of 2^13 among it; longer ones are refused.
func TestP161P168ThereAndBack(t *testing.T) {
	for _, x := range someTxns() {
		wantTxn(t, vault.TxnBytes(x), x, api.OK)
	}
	for _, p := range someSinks() {
		wantSink(t, vault.SinkBytes(p), p, api.OK)
	}
	for _, n := range sizes() {
		for _, x := range longTxns(n) {
			if n > 8192 {
				wantTxn(t, vault.TxnBytes(x), api.Txn{}, api.ErrShape)
			} else {
				wantTxn(t, vault.TxnBytes(x), x, api.OK)
			}
		}
		for _, p := range longSinks(n) {
			if n > 8192 {
				wantSink(t, vault.SinkBytes(p), api.Sink{}, api.ErrShape)
			} else {
				wantSink(t, vault.SinkBytes(p), p, api.OK)
			}
		}
	}
}

// TestP161Cut: bytes that end early, at each place.
func TestP161Cut(t *testing.T) {
	for _, x := range someTxns() {
		b := vault.TxnBytes(x)
		for n := range b {
			wantTxn(t, b[:n], api.Txn{}, api.ErrShort)
		}
	}
	for _, p := range someSinks() {
		b := vault.SinkBytes(p)
		for n := range b {
			wantSink(t, b[:n], api.Sink{}, api.ErrShort)
		}
	}
	wantTxn(t, nil, api.Txn{}, api.ErrShort)
	wantSink(t, nil, api.Sink{}, api.ErrShort)
}

// TestP161Extra: bytes behind the end, whatever they are.
func TestP161Extra(t *testing.T) {
	for _, extra := range [][]byte{{0}, {128}, {255, 255}, {2, 2, 2}} {
		for _, x := range someTxns() {
			wantTxn(t, append(vault.TxnBytes(x), extra...), api.Txn{}, api.ErrExtra)
		}
		for _, p := range someSinks() {
			wantSink(t, append(vault.SinkBytes(p), extra...), api.Sink{}, api.ErrExtra)
		}
	}
}

// spelt puts another form in the place of the number at i of some.
func spelt(l []int64, i int, form ...byte) []byte {
	return slices.Concat(forms(l[:i]...), form, forms(l[i+1:]...))
}

// TestP161Shape: each number in a longer form than it needs, and above 64 bits.
func TestP161Shape(t *testing.T) {
	above := []byte{255, 255, 255, 255, 255, 255, 255, 255, 255, 127}
	x, p := wordsTxn(txn(5, 4, 6, 8, 12, 20)), wordsSink(used())
	for i := range x {
		wantTxn(t, spelt(x, i, append([]byte{128}, forms(x[i])...)...), api.Txn{}, api.ErrShape)
		wantTxn(t, spelt(x, i, above...), api.Txn{}, api.ErrShape)
	}
	for i := range p {
		wantSink(t, spelt(p, i, append([]byte{128}, forms(p[i])...)...), api.Sink{}, api.ErrShape)
		wantSink(t, spelt(p, i, above...), api.Sink{}, api.ErrShape)
	}
}

// TestP161Counts: what is no count of a list is refused there; ahead of what is missing behind it.
func TestP161Counts(t *testing.T) {
	x, p := wordsTxn(txn(5, 4, 6, 8, 12, 20)), wordsSink(used())
	for _, n := range []int64{least, -8192, -2, -1, 8193, 8194, 1 << 14, 1 << 32, 1<<32 + 1, end, most} {
		for _, i := range []int{3, 8} {
			wantTxn(t, spelt(x, i, forms(n)...), api.Txn{}, api.ErrShape)
			wantTxn(t, forms(append(x[:i:i], n)...), api.Txn{}, api.ErrShape)
		}
		for _, i := range []int{1, 14, 17, 20, 24, 29, 35, 42} {
			wantSink(t, spelt(p, i, forms(n)...), api.Sink{}, api.ErrShape)
			wantSink(t, forms(append(p[:i:i], n)...), api.Sink{}, api.ErrShape)
		}
	}
	// These are counts, of more than there is.
	for _, n := range []int64{100, 8191, 8192} {
		for _, i := range []int{3, 8} {
			wantTxn(t, forms(append(x[:i:i], n)...), api.Txn{}, api.ErrShort)
		}
		for _, i := range []int{1, 14, 17, 20, 24, 29, 35, 42} {
			wantSink(t, forms(append(p[:i:i], n)...), api.Sink{}, api.ErrShort)
		}
	}
}

// TestP161TheFirstError: the first one from the left is the answer.
func TestP161TheFirstError(t *testing.T) {
	wantTxn(t, []byte{2, 2, 2, 128, 0, 0, 0}, api.Txn{}, api.ErrShape)
	wantTxn(t, []byte{2, 2, 2, 4, 0, 0, 0, 128}, api.Txn{}, api.ErrShape)
	wantTxn(t, []byte{2, 2, 2, 4, 0, 0, 0}, api.Txn{}, api.ErrShort)
	wantSink(t, []byte{2, 0, 0, 0, 2, 0, 0, 0, 1, 0}, api.Sink{}, api.ErrShape)
	wantSink(t, []byte{2, 0, 0, 0, 2, 0, 0, 0, 0, 0, 0, 128}, api.Sink{}, api.ErrExtra)
	wantSink(t, []byte{2, 0, 0, 0, 4, 0, 0, 0, 0, 0}, api.Sink{}, api.ErrShort)
}

// FuzzBytes: what is parsed has these bytes.
func FuzzBytes(f *testing.F) {
	for _, x := range someTxns() {
		f.Add(vault.TxnBytes(x))
	}
	for _, p := range someSinks() {
		f.Add(vault.SinkBytes(p))
	}
	f.Fuzz(func(t *testing.T, b []byte) {
		if x, e := vault.ParseTxn(b); e == api.OK && !bytes.Equal(vault.TxnBytes(x), b) || e != api.OK && !reflect.DeepEqual(x, api.Txn{}) {
			t.Errorf("ParseTxn(%v) = %+v, %d", b, x, e)
		}
		if p, e := vault.ParseSink(b); e == api.OK && !bytes.Equal(vault.SinkBytes(p), b) || e != api.OK && !reflect.DeepEqual(p, api.Sink{}) {
			t.Errorf("ParseSink(%v) = %+v, %d", b, p, e)
		}
	})
}
