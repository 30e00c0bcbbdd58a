/-
  Where the reference's Epochs stands, plainly. Nothing is walked.
-/
import Derived.Test.YtihbdlbnpkmafaaEru
namespace Go.Proofs.Ytihbdlbnpkmafaa
open Go.RowKit Go.Shelf

theorem ERow.drop {W : World} {p : Option Addr} {c f : Nat} {es : List EV} (h : ERow W p c es) : ERow W (if c = f then p else p.map (fun x => x.add (f * 4))) (c - f) (es.drop f) := by
  refine ⟨?_, by have := h.top; omega, fun hp => ?_, fun i hi => ?_⟩
  · rw [List.length_drop]; have := h.le; omega
  · by_cases hc : c = f
    · omega
    · rw [if_neg hc] at hp
      cases p with
      | none => have := h.nil rfl; omega
      | some a => cases hp
  · rw [List.length_drop] at hi
    obtain ⟨g, o, e, h1⟩ := h.cell (f + i) (by omega)
    have hc : ¬ c = f := by have := h.le; omega
    rw [if_neg hc, e]
    refine ⟨g, o + f * 4, by simp [Addr.add], fun j hj => ?_⟩
    have h2 := h1 j hj
    rw [getElem!_pos es (f + i) (by omega)] at h2
    rw [getElem!_pos (es.drop f) i (by rw [List.length_drop]; omega), List.getElem_drop, ← h2]
    congr 2
    omega
/-- Behind k events, the last barrier among them ahead of f: so much is gathered. -/
def EpR (es : List EV) (k f : Nat) (dn : List Ep) : Prop := f ≤ k ∧ epochsL (knownL es) = dn ++ epS (knownL (es.drop k)) (rcsOf ((es.drop f).take (k - f)))
theorem EpR.start (es : List EV) : EpR es 0 0 [] := ⟨Nat.le_refl _, rfl⟩
theorem EpR.bar {es : List EV} {k f : Nat} {dn : List Ep} (h : EpR es k f dn) (hk : k < es.length) {x : EV} (hx : es[k]! = x) (h2 : x.kind = 2) : EpR es (k + 1) (k + 1) (dn ++ [(x.id, rcsOf ((es.drop f).take (k - f)))]) := by
  refine ⟨Nat.le_refl _, ?_⟩
  rw [h.2, drop_consE hk hx]
  unfold knownL
  rw [List.filter_cons_of_pos (by simp [isK, h2]), epS, if_neg (by simp [isR, h2])]
  simp [rcsOf]
theorem EpR.other {es : List EV} {k f : Nat} {dn : List Ep} (h : EpR es k f dn) (hk : k < es.length) {x : EV} (hx : es[k]! = x) (h2 : ¬ x.kind = 2) : EpR es (k + 1) f dn := by
  have hf := h.1
  have hx2 : (es.drop f)[k - f]! = x := by
    rw [← hx, getElem!_pos es k hk, getElem!_pos (es.drop f) (k - f) (by rw [List.length_drop]; omega), List.getElem_drop]
    congr 1
    omega
  have hs := rcsOf_snoc (es := es.drop f) (k := k - f) (by rw [List.length_drop]; omega) hx2
  refine ⟨by omega, ?_⟩
  rw [h.2, drop_consE hk hx, show k + 1 - f = k - f + 1 by omega, hs]
  unfold knownL
  by_cases h1 : x.kind = 1
  · rw [List.filter_cons_of_pos (by simp [isK, h1]), epS, if_pos (by simp [isR, h1]), if_pos (by simp [isR, h1])]
  · rw [List.filter_cons_of_neg (by simp [isK, h1, h2]), if_neg (by simp [isR, h1]), List.append_nil]
theorem EpR.end {es : List EV} {f : Nat} {dn : List Ep} (h : EpR es es.length f dn) : ((rcsOf (es.drop f)).length = 0 → epochsL (knownL es) = dn) ∧ (¬ (rcsOf (es.drop f)).length = 0 → epochsL (knownL es) = dn ++ [(0, rcsOf (es.drop f))]) := by
  have h1 := h.2
  rw [List.drop_eq_nil_of_le (Nat.le_refl _), List.take_of_length_le (by rw [List.length_drop]; omega)] at h1
  unfold knownL at h1
  rw [List.filter_nil, epS] at h1
  refine ⟨fun h0 => ?_, fun h0 => ?_⟩
  · rw [if_pos h0, List.append_nil] at h1; exact h1
  · rw [if_neg h0] at h1; exact h1
theorem EpR.len {es : List EV} {k f : Nat} {dn : List Ep} (h : EpR es k f dn) : dn.length ≤ (epochsL (knownL es)).length := by
  rw [h.2, List.length_append]; omega
end Go.Proofs.Ytihbdlbnpkmafaa
