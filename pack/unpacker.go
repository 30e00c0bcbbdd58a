package pack

import (
	"bytes"

	"pontoon/api"
)

// Unpacker reads what was packed, from the left, and keeps its first error.
type Unpacker struct {
	made bool
	rest []byte // nil with an error: what is left then is never read
	err  api.Errno
}

// Open answers an unpacker at the beginning of b.
func Open(b []byte) *Unpacker {
	// The owner of b may write to it while the unpacker reads on.
	return &Unpacker{made: true, rest: bytes.Clone(b)}
}

// Int reads a number from least to most.
func (u *Unpacker) Int(least, most int64) int64 {
	if u.Err() != api.OK {
		return 0
	}
	n, size, fault := First(u.rest)
	if fault == api.OK && (n < least || n > most) {
		fault = api.ErrShape
	}
	if fault != api.OK {
		u.Spoil(fault)
		return 0
	}
	u.rest = u.rest[size:]
	return n
}

// Str reads a byte string of at most so many bytes.
func (u *Unpacker) Str(most int) []byte {
	length := u.Int(0, int64(max(most, 0)))
	if u.Err() != api.OK {
		return nil
	}
	if length > int64(len(u.rest)) {
		u.Spoil(api.ErrShort)
		return nil
	}
	x := bytes.Clone(u.rest[:length])
	u.rest = u.rest[length:]
	return x
}

// Flag reads a number that is 0 or 1, and tells whether it is 1.
func (u *Unpacker) Flag() bool {
	return u.Int(0, 1) == 1
}

// Spoil makes e the unpacker's error, if it has none.
func (u *Unpacker) Spoil(e api.Errno) {
	if e == api.OK || u.Err() != api.OK {
		return
	}
	u.err = e
	u.rest = nil
}

// Rest tells how many bytes are left.
func (u *Unpacker) Rest() int {
	if u == nil {
		return 0
	}
	return len(u.rest)
}

// Err tells the unpacker's error.
func (u *Unpacker) Err() api.Errno {
	if u == nil || !u.made {
		return api.ErrMade
	}
	return u.err
}

// Close tells the unpacker's error, or that bytes are left; the latter does not become its error.
func (u *Unpacker) Close() api.Errno {
	if e := u.Err(); e != api.OK {
		return e
	}
	if len(u.rest) > 0 {
		return api.ErrExtra
	}
	return api.OK
}
