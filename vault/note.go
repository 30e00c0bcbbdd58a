package vault

import (
	"iter"

	"pontoon/api"
	"pontoon/frame"
	"pontoon/pack"
	"pontoon/sink"
)

// Kinds of notes.
const (
	noteFence = iota + 1
	notePre
	noteCommit
	noteAbort
)

// note is a change of the sink. Of txn it has what its kind needs: all of it, its name, or its Epoch alone.
type note struct {
	number int64
	kind   int64
	txn    api.Txn
}

func (n note) key() api.TxnKey {
	return api.TxnKey{Epoch: n.txn.Epoch, Id: n.txn.Id}
}

// frame answers what stands in the log for n.
func (n note) frame() ([]byte, api.Errno) {
	l := []int64{n.number, n.kind}
	switch n.kind {
	case noteFence:
		l = append(l, n.txn.Epoch)
	case notePre:
		l = addTxn(l, n.txn)
	default:
		l = append(l, n.txn.Epoch, n.txn.Id)
	}
	return frame.Make(pack.Int(nil, l...))
}

// note reads a note, whose kind tells what else it has.
func (r reader) note() note {
	n := note{number: r.number(), kind: r.Int(noteFence, noteAbort)}
	switch n.kind {
	case noteFence:
		n.txn.Epoch = r.number()
	case notePre:
		n.txn = r.txn()
	default:
		n.txn.Epoch, n.txn.Id = r.number(), r.number()
	}
	return n
}

// do has s do what n says, and answers what s answers.
func (n note) do(s *sink.Sink) api.Errno {
	switch n.kind {
	case noteFence:
		return s.Fence(n.txn.Epoch)
	case notePre:
		return s.Pre(n.txn)
	case noteCommit:
		return s.Commit(n.key())
	default:
		return s.Abort(n.key())
	}
}

// notes goes through the notes of a log's frames, each with whether it is one.
func notes(log []byte) iter.Seq2[note, bool] {
	return func(yield func(note, bool) bool) {
	telling:
		for _, load := range frame.All(log) {
			n, e := parse(load, maxList, reader.note)
			if !yield(n, e == api.OK) {
				break telling
			}
		}
	}
}
