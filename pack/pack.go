// Package pack is layer 1: signed numbers and byte strings as bytes, each in one form.
package pack

import (
	"bytes"
	"iter"
	"math/bits"

	"pontoon/api"
)

const (
	digitBits = 7
	more      = 1 << digitBits        // is added to each digit but the last one
	mostHead  = 1<<(64-digitBits) - 1 // the greatest number that has room for one more digit in 64 bits
)

// Int answers b and the forms of these numbers behind it.
func Int(b []byte, l ...int64) []byte {
	size := 0
	for _, n := range l {
		size += Size(n)
	}
	out := begin(b, size)
	for _, n := range l {
		out = put(out, n)
	}
	return out
}

// Str answers b and x's form behind it.
func Str(b []byte, x []byte) []byte {
	length := int64(len(x))
	out := begin(b, Size(length)+len(x))
	return append(put(out, length), x...)
}

// Size tells how many bytes n's form has.
func Size(n int64) int {
	// 0 has no bits, but one digit.
	return (bits.Len64(natural(n)|1) + digitBits - 1) / digitBits
}

// First tells the number with whose form b begins, and how many bytes that has.
func First(b []byte) (int64, int, api.Errno) {
	head, fault := uint64(0), api.ErrShort
digits:
	for i, c := range b {
		switch {
		case i == 0 && c == more, head > mostHead:
			fault = api.ErrShape
			break digits
		case c < more:
			return signed(head<<digitBits | uint64(c)), i + 1, api.OK
		}
		head = head<<digitBits | uint64(c-more)
	}
	return 0, 0, fault
}

// Ints goes through the numbers with which b begins, each with the place in b behind it.
func Ints(b []byte) iter.Seq2[int64, int] {
	// The owner of b may write to it between now and the loop.
	kept := bytes.Clone(b)
	return func(yield func(int64, int) bool) {
		place := 0
		for {
			n, size, fault := First(kept[place:])
			if fault != api.OK {
				return
			}
			place += size
			if !yield(n, place) {
				return
			}
		}
	}
}

// begin copies b into memory with room for some bytes more: appending to b itself might write behind it.
func begin(b []byte, room int) []byte {
	return append(make([]byte, 0, len(b)+room), b...)
}

// put appends n's form; b is memory of this package's own.
func put(b []byte, n int64) []byte {
	v := natural(n)
	for i := Size(n) - 1; i > 0; i-- {
		b = append(b, byte(v>>(digitBits*i))|more)
	}
	return append(b, byte(v%more))
}

// natural is 2n, or -2n - 1 of a number below 0; the shift down fills all bits with the sign.
func natural(n int64) uint64 {
	return uint64(n)<<1 ^ uint64(n>>63)
}

// signed undoes natural.
func signed(v uint64) int64 {
	return int64(v>>1) ^ -int64(v&1)
}
