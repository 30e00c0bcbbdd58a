/-
  To: the first input that comes from a port; the program's and the reference's. No conditions.
-/
import Derived.Test.YtlfipmieaabagaaGreatGfs
import Derived.OwnWalk
namespace Go.Proofs.YtlfipmieaabagaaGreat
open Go.RowKit

def idxE (es : List GE) (e : GE) : Option Nat := (List.range es.length).find? (fun i => decide (es[i]! = e))
theorem idxE_hit {es : List GE} {e : GE} {n : Nat} (hn : n < es.length) (h : ∀ j, j < n → es[j]! ≠ e) (h2 : es[n]! = e) : idxE es e = some n := by
  unfold idxE
  rw [List.find?_range_eq_some]
  exact ⟨by simpa using h2, by simpa using hn, fun j hj => by simpa using h j hj⟩
theorem idxE_none {es : List GE} {e : GE} (h : ∀ j, j < es.length → es[j]! ≠ e) : idxE es e = none := by
  unfold idxE
  rw [List.find?_range_eq_none]
  exact fun j hj => by simpa using h j hj
def fromF (e : GE) (o : GO) : Bool := (idxE o.ins e).isSome
def toC (os : List GO) (e : GE) : Int × Int × Bool :=
  match firstO (fromF e) os with
  | some n => ((n : Int), atN (idxE (os[n]!).ins e), true)
  | none => (0, 0, false)
theorem toC_hit {os : List GO} {e : GE} {n i : Nat} (h1 : firstO (fromF e) os = some n) (h2 : idxE (os[n]!).ins e = some i) : toC os e = ((n : Int), (i : Int), true) := by
  unfold toC
  rw [h1]
  simp only [h2]
  rfl
theorem toC_none {os : List GO} {e : GE} (h1 : firstO (fromF e) os = none) : toC os e = (0, 0, false) := by
  unfold toC
  rw [h1]

end Go.Proofs.YtlfipmieaabagaaGreat
