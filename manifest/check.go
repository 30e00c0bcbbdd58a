package manifest

import "pontoon/api"

// Check tells whether m may be.
func Check(m api.Manifest) api.Errno {
	if isName(Key(m)) && isVector(m.Vector) && recordsFit(m) && piecesFit(m.Pieces) {
		return api.OK
	}
	return api.ErrManifest
}

func isName(k api.TxnKey) bool {
	return within(k.Epoch, 1, api.MaxNum) && within(k.Id, 1, api.MaxNum)
}

func isVector(l []int64) bool {
	if !within(len(l), 1, api.MaxParts) {
		return false
	}
	for _, n := range l {
		if !within(n, 0, api.MaxNum) {
			return false
		}
	}
	return true
}

// recordsFit tells whether there is a record for each place from m's Begin up to its Out. Both are bounded ahead of taking their difference, which might wrap round.
func recordsFit(m api.Manifest) bool {
	return within(m.Out, 0, api.MaxNum) && within(m.Begin, 0, m.Out) &&
		int64(len(m.Records)) == m.Out-m.Begin && len(m.Records) <= api.MaxTxn
}

// piecesFit tells whether a state may be made of these. Lens are added that are bounded already, so that their sum can't wrap round.
func piecesFit(l []api.Piece) bool {
	if len(l) > api.MaxPieces {
		return false
	}
	size := 0
	for _, p := range l {
		if !within(p.Len, 1, api.MaxPiece) {
			return false
		}
		size += p.Len
	}
	return size <= api.MaxSnap
}

func within[N int | int64](n, least, most N) bool {
	return n >= least && n <= most
}
