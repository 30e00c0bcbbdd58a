/-
  The reference's many: how many inputs of the first operators come from a port. The conditions: lengths.
-/
import Derived.Test.YtbcllgddogghbaaGen
namespace Go.Proofs.Ytbcllgddogghbaa
open Go.RowKit

def cntE (es : List GE) (e : GE) : Nat := (es.filter (fun x => decide (x = e))).length
def manyC (os : List GO) (e : GE) : Nat := cntE (os.flatMap GO.ins) e
theorem cntE_snoc (es : List GE) (x e : GE) : cntE (es ++ [x]) e = cntE es e + (if x = e then 1 else 0) := by
  unfold cntE
  rw [List.filter_append, List.length_append]
  congr 1
  by_cases h : x = e
  · rw [if_pos h, List.filter_cons_of_pos (by simpa using h)]; rfl
  · rw [if_neg h, List.filter_cons_of_neg (by simpa using h)]; rfl
theorem cntE_append (es fs : List GE) (e : GE) : cntE (es ++ fs) e = cntE es e + cntE fs e := by simp [cntE]
theorem cntE_le (es : List GE) (e : GE) : cntE es e ≤ es.length := List.length_filter_le _ _
theorem many_snoc (os : List GO) (o : GO) (e : GE) : manyC (os ++ [o]) e = manyC os e + cntE o.ins e := by
  unfold manyC
  rw [List.flatMap_append, cntE_append]
  simp

end Go.Proofs.Ytbcllgddogghbaa
