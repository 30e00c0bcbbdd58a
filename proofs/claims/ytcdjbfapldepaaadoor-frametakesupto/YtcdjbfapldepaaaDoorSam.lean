/-
  What the reference's Same returns: whether two lists of byte strings are the same; over any world, in which nothing that was there turns. The conditions: both read as lists of byte strings.
-/
import Derived.Test.YtcdjbfapldepaaaDoorScn
namespace Go.Proofs.YtcdjbfapldepaaaDoor
open Go.RowKit

set_option maxHeartbeats 2000000 in
theorem same_any {v1 v2 : Value} {xs ys : List (List Int)} {w : World} (h1 : Rows2 w v1 xs) (h2 : Rows2 w v2 ys) (ux : ∀ x ∈ xs, U8 x) (uy : ∀ x ∈ ys, U8 x) (hxy : xs = ys) :
    Calls Tryd.prog 22 #[v1, v2] w fun e w' => e = .returned (.bool true) ∧ Below w.heap.size w w' := by
  subst hxy
  have HU : Hid (∀ x ∈ xs, U8 x) := ux
  obtain ⟨p, cap, rfl, g1, g2, _, g4⟩ := h1
  obtain ⟨p', cap', rfl, f1, f2, _, f4⟩ := h2
  have H1 : Hid (0 < xs.length → ∃ b o, p = some ⟨b, o, none⟩ ∧ ∀ i, i < xs.length → ∃ u, w.cell? ⟨b, o + i, none⟩ = some u ∧ Row .u8 w u (xs.getD i [])) := g4
  have H2 : Hid (0 < xs.length → ∃ b o, p' = some ⟨b, o, none⟩ ∧ ∀ i, i < xs.length → ∃ u, w.cell? ⟨b, o + i, none⟩ = some u ∧ Row .u8 w u (xs.getD i [])) := f4
  clear g4 f4 ux uy
  have hne : (((xs.length : Nat) : Int) != ((xs.length : Nat) : Int)) = false := by simp
  go_enter Tryd.func22, Tryd.ntmps22
  go_wp2
  go_loopw [5] (fun i wr => ∃ k : Nat, k ≤ xs.length ∧ i = .int .i64 (k : Int) ∧ Below w.heap.size w wr) (fun i _ => xs.length - (intOf i).toNat)
  case atStart => exact ⟨0, Nat.zero_le _, rfl, Below.refl _ _⟩
  case round =>
    obtain ⟨k, hk, rfl, hbr⟩ := hrel
    by_cases hlt : k < xs.length
    · obtain ⟨b1, o1, rfl, hc1⟩ := H1.out (by omega)
      obtain ⟨b2, o2, rfl, hc2⟩ := H2.out (by omega)
      obtain ⟨u1, d1, r1⟩ := hc1 k hlt
      obtain ⟨u2, d2, r2⟩ := hc2 k hlt
      obtain ⟨x, hx⟩ : ∃ x, x = xs.getD k [] := ⟨_, rfl⟩
      rw [← hx] at r1 r2
      have e1 := cell_later hbr d1
      have e2 := cell_later hbr d2
      have i1 : (0 : Int) ≤ (k : Int) := by omega
      have i2 : (k : Int) < (xs.length : Int) := by omega
      have R1 : Hid (Row .u8 wr u1 x) := r1.below hbr
      have R2 : Hid (Row .u8 wr u2 x) := r2.below hbr
      obtain ⟨q1, n1, rfl, _⟩ := r1
      obtain ⟨q2, n2, rfl, _⟩ := r2
      have HC : ∀ W, Below wr.heap.size wr W → W.cell? ⟨b1, o1 + k, none⟩ = some (.slice q1 x.length n1) ∧ W.cell? ⟨b2, o2 + k, none⟩ = some (.slice q2 x.length n2) ∧
          (convert 22 9 (.slice q1 x.length n1)).run Tryd.prog W = .ok (.string (strOfNums x)) W ∧ (convert 22 9 (.slice q2 x.length n2)).run Tryd.prog W = .ok (.string (strOfNums x)) W := fun W hW =>
        ⟨cell_later hW e1, cell_later hW e2, conv_row (R1.out.below hW) 22 5 9 Tryd.underlying22 Tryd.underlying5 Tryd.underlying9, conv_row (R2.out.below hW) 22 5 9 Tryd.underlying22 Tryd.underlying5 Tryd.underlying9⟩
      clear hc1 hc2 hx H1 H2 d1 d2 e1 e2 R1 R2
      generalize strOfNums x = str at HC
      go_wp2
      refine region_class (fun W => Below wr.heap.size wr W) (by kernel_rfl) (by kernel_rfl) (Below.refl _ wr).drew ?_
      repeat
        first
          | (refine BigFrame.wpQuiet_want (by rfl) (fun K hK => ?_)
             unfold Oper.quiet
             apply Exists.intro
             refine ⟨fun W hW => ?_, hK _ ?_⟩
             · first
                | (obtain ⟨r0, r1, r2, r3⟩ := HC W hW; go_simp; done)
                | (obtain ⟨r0, r1, r2, r3⟩ := HC W hW; go_simp; exact rfl)
             clear hK K
             simp only [Act.put, List.setIfInBounds_toArray, List.set_cons_zero, List.set_cons_succ])
      refine wpQuiet_nil (fun W hW => ?_)
      have B2 : Below w.heap.size w W := hbr.trans (hW.mono hbr.size)
      clear HC hW hbr
      go_wp2
      go_roundw
      case rel => exact ⟨k + 1, by omega, by go_num, B2⟩
      case measure => simp [intOf]; omega
    · clear H1 H2
      go_wp2
      go_ret
      exact ⟨rfl, hbr⟩

end Go.Proofs.YtcdjbfapldepaaaDoor
