package lease

import (
	"math"

	"pontoon/api"
	"pontoon/pack"
)

// Bytes answers l's form.
func Bytes(l api.Lease) ([]byte, api.Errno) {
	if e := Check(l); e != api.OK {
		return nil, e
	}
	solo := int64(0)
	if l.Solo {
		solo = 1
	}
	return pack.Int(nil, int64(l.Owner), int64(l.Last), l.Epoch, l.Clock, l.Until, solo), api.OK
}

// Parse answers the lease whose form b is.
func Parse(b []byte) (api.Lease, api.Errno) {
	u := pack.Open(b)
	// The fields stand in the form's order: they are read as they stand here.
	l := api.Lease{
		Owner: int(number(u)),
		Last:  int(number(u)),
		Epoch: number(u),
		Clock: number(u),
		Until: number(u),
		Solo:  u.Flag(),
	}
	if e := u.Close(); e != api.OK {
		return api.Lease{}, e
	}
	if e := Check(l); e != api.OK {
		return api.Lease{}, e
	}
	return l, api.OK
}

func number(u *pack.Unpacker) int64 {
	return u.Int(math.MinInt64, math.MaxInt64)
}
