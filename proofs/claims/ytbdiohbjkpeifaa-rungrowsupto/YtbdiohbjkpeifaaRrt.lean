/-
  The reference's Turns. The conditions: lengths.
-/
import Derived.Test.YtbdiohbjkpeifaaRtu
import Derived.Test.YtbdiohbjkpeifaaGcl
import Derived.Deep.RegionLaw
import Derived.BigQuiet
namespace Go.Proofs.Ytbdiohbjkpeifaa
open Go.RowKit Go.Shelf

theorem below_drewNR {n : Nat} {A B : World} (h : Below n A B) (k : Nat) : Below n A (B.drewN k) := ⟨h.os, h.tape, h.output, h.size, h.block⟩
theorem own_cellR {W : World} {base n cap k : Nat} {e : TypeId} {p : Option Addr} {xs : List Value} (h : W.ownsRow base e 1 (.slice p n cap) n xs) (hk : k < n) : ∃ g, p = some ⟨g, 0, none⟩ ∧ W.cell? ⟨g, k, none⟩ = some (xs.getD k undef) := by
  rcases h.2 with ⟨_, h0⟩ | ⟨g, cap', cur, he, hb, hg, hn, hcm, hcur, htk⟩
  · omega
  · simp only [Value.slice.injEq, true_and] at he
    obtain ⟨rfl, rfl⟩ := he
    refine ⟨g, rfl, ?_⟩
    have hl : xs.length = n := by have := h.1; omega
    rw [h.cellAt k (by omega)]
    simp [List.getD, List.getElem?_eq_getElem (show k < xs.length by omega)]
end Go.Proofs.Ytbdiohbjkpeifaa
