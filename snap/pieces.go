package snap

import (
	"bytes"
	"slices"

	"pontoon/api"
	"pontoon/frame"
)

// Split answers b in pieces of n bytes, the last one of as many as are left.
func Split(b []byte, n int) ([][]byte, api.Errno) {
	if n < 1 || n > api.MaxPiece {
		return nil, api.ErrArg
	}
	if len(b) > api.MaxSnap {
		return nil, api.ErrLong
	}
	var l [][]byte
	for piece := range slices.Chunk(b, n) {
		l = append(l, bytes.Clone(piece))
	}
	return l, api.OK
}

// Pieces answers what is known of each piece.
func Pieces(l ...[]byte) []api.Piece {
	var known []api.Piece
	for _, b := range l {
		known = append(known, api.Piece{Len: len(b), Sum: frame.Sum(b)})
	}
	return known
}

// Fits tells whether b is a piece of which p is known.
func Fits(p api.Piece, b []byte) bool {
	return p.Len == len(b) && p.Sum == frame.Sum(b)
}

// Join answers all bytes of these pieces, if each fits what is known of the one at its place.
func Join(known []api.Piece, l ...[]byte) ([]byte, api.Errno) {
	if !slices.EqualFunc(known, l, Fits) {
		return nil, api.ErrSnap
	}
	if size(l) > api.MaxSnap {
		return nil, api.ErrLong
	}
	return slices.Concat(l...), api.OK
}

// size tells how many bytes these have together.
func size(l [][]byte) int {
	n := 0
	for _, b := range l {
		n += len(b)
	}
	return n
}
