/-
  Which fields an operator may have: the program's functionFits, keyFits, fieldsFit; the reference's Ports and fields. No conditions but on the number of partitions.
-/
import Derived.Test.YtkibiappjegogaaGrm
namespace Go.Proofs.Ytkibiappjegogaa.Op
open Go.RowKit

def keyC (fn ar : Int) : Bool := if fn = 1 then ar == 0 else if fn = 2 ∨ fn = 3 then decide (1 ≤ ar) else fn == 4
def fitC (kd fn ar : Int) : Bool :=
  if kd = 2 ∨ kd = 3 then decide (1 ≤ fn ∧ fn ≤ 4 ∧ (fn ≠ 3 ∨ ar = 0))
  else if kd = 4 then keyC fn ar
  else if kd = 5 then decide (1 ≤ fn ∧ fn ≤ 5 ∧ ar = 0)
  else if kd = 6 then decide (1 ≤ fn ∧ fn ≤ 5 ∧ 1 ≤ ar ∧ ar ≤ 64)
  else if kd = 7 then decide (fn = 0 ∧ 2 ≤ ar ∧ ar ≤ 4)
  else decide (fn = 0 ∧ ar = 0)
def fieldsC (kd pt fn ar parts : Int) : Bool :=
  if kd = 1 then decide (0 ≤ pt ∧ pt < parts ∧ fn = 0 ∧ ar = 0) else pt == 0 && fitC kd fn ar
theorem bt {p q : Prop} [Decidable p] [Decidable q] (hp : p) (hq : q) : (decide p && decide q) = true := by simp [hp, hq]
theorem bf {p q : Prop} [Decidable p] [Decidable q] (h : ¬ (p ∧ q)) : (decide p && decide q) = false := by
  cases hb : (decide p && decide q) with
  | false => rfl
  | true => exact absurd (by simpa using hb) h

end Go.Proofs.Ytkibiappjegogaa.Op
