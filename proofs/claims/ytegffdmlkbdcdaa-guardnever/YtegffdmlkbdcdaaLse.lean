/-
  grant of package lease. The condition: that the lease may be.
-/
import Derived.Test.YtegffdmlkbdcdaaLsd
namespace Go.Proofs.Ytegffdmlkbdcdaa.Op
open Go.RowKit

theorem drew2_heap {w : World} {b : Nat} {o : Obj} (h : w.heap[b]? = some o) : w.drew.drew.heap[b]? = some o := h
theorem below_drew2 {n : Nat} {A B : World} (h : Below n A B) : Below n A B.drew.drew := ⟨h.os, h.tape, h.output, h.size, h.block⟩

end Go.Proofs.Ytegffdmlkbdcdaa.Op
