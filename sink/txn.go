package sink

import (
	"slices"

	"pontoon/api"
)

// Above tells whether a and b are equally long, and no number of a is less than that of b at its place.
func Above(a, b []int64) bool {
	if len(a) != len(b) {
		return false
	}
	for i := range a {
		if a[i] < b[i] {
			return false
		}
	}
	return true
}

// mayBe tells whether t may be in a sink of so many partitions.
func mayBe(t api.Txn, parts int) bool {
	return isName(name(t)) &&
		t.Begin >= 0 && t.Begin <= api.MaxOut &&
		len(t.Records) <= api.MaxTxn &&
		isVector(t.Vector, parts)
}

func name(t api.Txn) api.TxnKey {
	return api.TxnKey{Epoch: t.Epoch, Id: t.Id}
}

// same tells whether a and b are the same, field by field; lists are so, whether they are empty or nil.
func same(a, b api.Txn) bool {
	return name(a) == name(b) && a.Begin == b.Begin && slices.Equal(a.Records, b.Records) && slices.Equal(a.Vector, b.Vector)
}

func cloneTxn(t api.Txn) api.Txn {
	t.Records, t.Vector = slices.Clone(t.Records), slices.Clone(t.Vector)
	return t
}

func isName(k api.TxnKey) bool {
	return isId(k.Epoch) && isId(k.Id)
}

func isVector(l []int64, parts int) bool {
	if len(l) != parts {
		return false
	}
	for _, n := range l {
		if n < 0 || n > api.MaxNum {
			return false
		}
	}
	return true
}

// isId tells whether n is an epoch, or a transaction's Id.
func isId(n int64) bool {
	return n >= 1 && n <= api.MaxNum
}
