/-
  What is kept, by keys, as it lies. The conditions: none.
-/
import Derived.Test.YtlfipmieaabagaaGreatOpn
namespace Go.Proofs.YtlfipmieaabagaaGreat.Op
open Go.RowKit

structure KS where
  key : Int
  cnt : Int
  acc : Int
  deriving DecidableEq
instance : Inhabited KS := ⟨⟨0, 0, 0⟩⟩
def KS.cells (x : KS) : List Value := [.int .i64 x.key, .int .i64 x.cnt, .int .i64 x.acc]
theorem KS.len (x : KS) : x.cells.length = 3 := rfl
abbrev KRow (W : World) (p : Option Addr) (cap : Nat) (ks : List KS) : Prop := ks.length ≤ cap ∧ cap ≤ 9223372036854775807 ∧ (p = none → cap = 0) ∧ ∀ i, i < ks.length → ∃ g o, p = some ⟨g, o, none⟩ ∧ ∀ j, j < 3 → W.cell? ⟨g, o + i * 3 + j, none⟩ = (KS.cells ks[i]!)[j]?
theorem KRow.later {W W' : World} {p : Option Addr} {cap : Nat} {ks : List KS} (h : KRow W p cap ks) (hb : Below W.heap.size W W') : KRow W' p cap ks := by
  obtain ⟨h1, h2, h3, h4⟩ := h
  refine ⟨h1, h2, h3, fun i hi => ?_⟩
  obtain ⟨g, o, e, hc⟩ := h4 i hi
  refine ⟨g, o, e, fun j hj => ?_⟩
  have h5 := hc j hj
  rw [List.getElem?_eq_getElem (by rw [KS.len]; exact hj)] at h5 ⊢
  exact cell_later hb h5
end Go.Proofs.YtlfipmieaabagaaGreat.Op
