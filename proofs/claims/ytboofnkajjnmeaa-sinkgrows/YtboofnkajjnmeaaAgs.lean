/-
  How an argument that is a slice of integers is opened: it reads as a list, which lies in memory; and what the bound of the second form says of its length. No condition.
-/
import Derived.Test.YtboofnkajjnmeaaMem
import Derived.ProofKit
import Derived.OpenShut
import Derived.ChangeOld
import Derived.JoinedCond
import Derived.SizedLaws
namespace Go.Proofs.Ytboofnkajjnmeaa
open Go.ChangeShapes Go.WideShapes Go.ChangeAt Go.RowKit

theorem Try.laidOut : laidOutB Try.prog = true := by kernel_rfl
theorem Try.ownK : ownKnob Try.prog.godebug = none := by kernel_rfl

/-- What is known of the datum d of a slice of len elements and cap places. -/
def DatumOf {H : Type} (d : DataW H) (len cap : Nat) : Prop := (d = .nil ∧ len = 0 ∧ cap = 0) ∨ ∃ elems spare, d = .slice elems spare ∧ elems.length = len ∧ elems.length + spare.length = cap

theorem arg_row {H : Type} {enc : TypeId × Value → H} {W : World} {t e : TypeId} {k : IntKind} {fuel len cap : Nat} {a : Option Addr} {d : DataW H} {p : List MemPlace}
    (ht : Try.prog.underlying t = some (.slice e)) (he : Try.prog.underlying e = some (.int k)) (hc : Try.prog.cellsOf e = 1)
    (hf : DataW.trod enc Try.prog W 0 (fun _ => true) true fuel t (Value.slice a len cap).cells.toList = some (d, p)) :
    ∃ l : List Int, l.length = len ∧ Row k W (.slice a len cap) l ∧ (∀ x ∈ l, (Lit.int k x).wf = true) ∧ DatumOf d len cap := by
  have hcs : (Value.slice a len cap).cells.toList = [.slice a len cap] := by simp [Value.cells]
  rcases open_ints ht he hc hf with ⟨h0, hx⟩ | ⟨x, len', cap', zs, h0, _, hl, hm, hz, hx, hcell, hwz⟩
  · rw [hcs] at h0
    simp at h0
    obtain ⟨rfl, rfl, rfl⟩ := h0
    simp only [Prod.mk.injEq] at hx
    exact ⟨[], rfl, Row.nil _ _, by simp, .inl ⟨hx.1, rfl, rfl⟩⟩
  · rw [hcs] at h0
    simp at h0
    obtain ⟨rfl, rfl, rfl⟩ := h0
    have hz' : zs.length = cap := by simpa using hz
    have e : (zs.take len).length = len := by rw [List.length_take]; omega
    simp only [Prod.mk.injEq] at hx
    refine ⟨zs.take len, e, ⟨some x, cap, by rw [e], by omega, by unfold maxLen at hm; omega, (by intro h; cases h), fun hp => ?_⟩, fun y hy => hwz y (List.mem_of_mem_take hy), .inr ⟨_, _, hx.1, ?_, ?_⟩⟩
    · rw [e] at hp
      obtain ⟨b, o, s⟩ := x
      obtain rfl : s = none := by
        have := World.cell?_spot (hcell 0 (by omega))
        simpa [Addr.add] using this
      refine ⟨b, o, rfl, fun i hi => ?_⟩
      rw [e] at hi
      have := hcell i (by omega)
      rw [Go.WideShapes.add_plain] at this
      rw [this]
      simp [List.getD, hi]
    · simp [lits]; omega
    · simp [lits]; omega

theorem bulk_one {H : Type} (d : DataW H) : 1 ≤ Rows.uptoBulk d := by
  cases d with
  | lit l => cases l <;> simp [Rows.uptoBulk]
  | _ => simp [Rows.uptoBulk]
theorem bulk_many {H : Type} (l : List (DataW H)) : l.length ≤ Rows.uptoBulkAll l := by
  induction l with
  | nil => simp [Rows.uptoBulkAll]
  | cons x r ih => have := bulk_one x; simp only [Rows.uptoBulkAll, List.length_cons]; omega
theorem DatumOf.bulk {H : Type} {d : DataW H} {len cap : Nat} (h : DatumOf d len cap) : len ≤ Rows.uptoBulk d := by
  rcases h with ⟨_, h, _⟩ | ⟨elems, spare, rfl, h, _⟩
  · omega
  · have := bulk_many elems; simp only [Rows.uptoBulk]; omega
theorem wf_u8 {l : List Int} (h : ∀ x ∈ l, (Lit.int .u8 x).wf = true) : U8 l := fun x hx => by have := bounds_u8 (h x hx); omega

/-- What the form's own reach says of a slice's length. -/
theorem sized_len {H : Type} {ts : List TypeId} {ds : List (DataW H)} (h : (DataW.weightsEach Try.prog ts ds).all (· ≤ reachBytes) = true) {j : Nat} {t e : TypeId} {len cap bytes : Nat} {d : DataW H}
    (ht : ts[j]? = some t) (hd : ds[j]? = some d) (hu : Try.prog.underlying t = some (.slice e)) (hb : Try.prog.bytesOf e = bytes) (hD : DatumOf d len cap) : len * bytes ≤ 140737488351232 := by
  rcases hD with ⟨_, hl, _⟩ | ⟨elems, spare, rfl, hl, _⟩
  · rw [hl]; omega
  · have := sized_slice h ht hd hu
    rw [hb] at this
    have h2 : len * bytes ≤ (elems.length + spare.length) * bytes := Nat.mul_le_mul_right _ (by omega)
    unfold reachBytes at this
    omega

end Go.Proofs.Ytboofnkajjnmeaa
