package manifest

import (
	"math"

	"pontoon/api"
	"pontoon/pack"
)

// maxList is how many items of a list are read at most: Check refuses far fewer.
const maxList = 1 << 13

// Bytes answers m's form.
func Bytes(m api.Manifest) ([]byte, api.Errno) {
	if err := Check(m); err != api.OK {
		return nil, err
	}
	return pack.Int(nil, numbers(m)...), api.OK
}

// Parse answers the manifest whose form b is.
func Parse(b []byte) (api.Manifest, api.Errno) {
	u := pack.Open(b)
	// The fields stand in the form's order: they are read as they stand here.
	m := api.Manifest{
		Epoch:   number(u),
		Id:      number(u),
		Vector:  list(u, number),
		Out:     number(u),
		Begin:   number(u),
		Records: list(u, record),
		Pieces:  list(u, piece),
		Graph:   uint32(natural(u)),
	}
	if err := u.Close(); err != api.OK {
		return api.Manifest{}, err
	}
	if err := Check(m); err != api.OK {
		return api.Manifest{}, err
	}
	return m, api.OK
}

// numbers are those of which the form of m is made. They are gathered, and packed all at once, as pack copies what it appends to.
func numbers(m api.Manifest) []int64 {
	l := []int64{m.Epoch, m.Id, int64(len(m.Vector))}
	l = append(l, m.Vector...)
	l = append(l, m.Out, m.Begin, int64(len(m.Records)))
	for _, r := range m.Records {
		l = append(l, r.Key, r.Val)
	}
	l = append(l, int64(len(m.Pieces)))
	for _, p := range m.Pieces {
		l = append(l, int64(p.Len), int64(p.Sum))
	}
	return append(l, int64(m.Graph))
}

// list reads how many there are, and each of them by one.
func list[T any](u *pack.Unpacker, one func(*pack.Unpacker) T) []T {
	// It grows as it is read: the number ahead of it may tell of more than there is.
	var l []T
	for left := u.Int(0, maxList); left > 0 && u.Err() == api.OK; left-- {
		l = append(l, one(u))
	}
	return l
}

func number(u *pack.Unpacker) int64 {
	return u.Int(math.MinInt64, math.MaxInt64)
}

// natural reads a number of four bytes.
func natural(u *pack.Unpacker) int64 {
	return u.Int(0, math.MaxUint32)
}

func record(u *pack.Unpacker) api.Record {
	return api.Record{Key: number(u), Val: number(u)}
}

func piece(u *pack.Unpacker) api.Piece {
	return api.Piece{Len: int(natural(u)), Sum: uint32(natural(u))}
}
