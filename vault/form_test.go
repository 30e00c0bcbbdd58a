package vault_test

import (
	"slices"

	"pontoon/api"
	"pontoon/frame"
)

// forms are the forms of numbers, digit by digit.
func forms(l ...int64) []byte {
	var b []byte
	for _, n := range l {
		v := 2 * uint64(n)
		if n < 0 {
			v = 2*uint64(-(n+1)) + 1
		}
		digits := []byte{byte(v % 128)}
		for v /= 128; v > 0; v /= 128 {
			digits = append(digits, byte(v%128)+128)
		}
		slices.Reverse(digits)
		b = append(b, digits...)
	}
	return b
}

// wordsTxn are the numbers of a transaction's form, as the chapter tells them.
func wordsTxn(x api.Txn) []int64 {
	l := []int64{x.Epoch, x.Id, x.Begin, int64(len(x.Records))}
	for _, r := range x.Records {
		l = append(l, r.Key, r.Val)
	}
	return append(append(l, int64(len(x.Vector))), x.Vector...)
}

// wordsSink are the numbers of a sink's form.
func wordsSink(p api.Sink) []int64 {
	l := []int64{p.Fence, int64(len(p.Out))}
	for _, r := range p.Out {
		l = append(l, r.Key, r.Val)
	}
	l = append(append(l, int64(len(p.Vector))), p.Vector...)
	l = append(append(l, int64(len(p.Done))), p.Done...)
	l = append(l, int64(len(p.Pre)))
	for _, x := range p.Pre {
		l = append(l, wordsTxn(x)...)
	}
	return l
}

// framed is the frame of some numbers' forms.
func framed(l ...int64) []byte {
	b, e := frame.Make(forms(l...))
	if e != api.OK {
		panic("too long for a frame")
	}
	return b
}

// fileOf is the file vault of a number and a sink.
func fileOf(number int64, p api.Sink) []byte {
	return framed(append([]int64{number}, wordsSink(p)...)...)
}

// noteOf is the frame of the note of an act.
func noteOf(number int64, a act) []byte {
	switch a.kind {
	case fence:
		return framed(number, 1, a.epoch)
	case pre:
		return framed(append([]int64{number, 2}, wordsTxn(a.txn)...)...)
	case commit:
		return framed(number, 3, a.key.Epoch, a.key.Id)
	}
	return framed(number, 4, a.key.Epoch, a.key.Id)
}

// logOf are the notes of some acts, with numbers that rise one by one.
func logOf(number int64, acts ...act) []byte {
	var b []byte
	for i, a := range acts {
		b = append(b, noteOf(number+int64(i), a)...)
	}
	return b
}
