/-
  PROVED: the statement PackRises: for every two int64 the law returns true: forms of one size rise, byte by byte, as the numbers do, from 0 on. No condition.
-/
import Derived.Test.YtpnoijmdhlkjlaaLiv
import Derived.Test.YtpnoijmdhlkjlaaCmp
import Derived.ProofKit
import Derived.OpenShut
import Derived.ChangeOld
namespace Go.Proofs.Ytpnoijmdhlkjlaa.packRises
open Go.ChangeShapes Go.WideShapes Go.ChangeAt Go.RowKit

theorem own : ownKnob Try.prog.godebug = none := by kernel_rfl

theorem zz_nonneg {n : Int} (h : 0 ≤ n) : zz n = (2 * n).toNat := by unfold zz; rw [if_pos h]

theorem rises {a b : Int} (ha : 0 ≤ a) (hb : 0 ≤ b) (h : sz (zz a) = sz (zz b)) : decide (Lib.compareBytes (Lib.bytesOf (form (zz a))) (Lib.bytesOf (form (zz b))) < 0) = decide (a < b) := by
  have h3 := form_three h
  rw [zz_nonneg ha, zz_nonneg hb] at h3 ⊢
  rcases h3 with ⟨hc, g⟩ | ⟨hc, g⟩ | ⟨hc, g⟩
  · rw [hc]; simp; omega
  · rw [hc]; simp; omega
  · rw [hc]; simp; omega
theorem same {a b : Int} (h : sz (zz a) = sz (zz b)) : decide (form (zz a) = form (zz b)) = (a == b) := by
  by_cases e : a = b
  · subst e; simp
  · have h3 := form_three h
    have : ¬ form (zz a) = form (zz b) := by
      intro ef
      rw [ef] at h3
      have hz : Lib.compareBytes (Lib.bytesOf (form (zz b))) (Lib.bytesOf (form (zz b))) = 0 := by
        have := form_three (u := zz b) (v := zz b) rfl
        rcases this with ⟨_, g⟩ | ⟨hc, _⟩ | ⟨_, g⟩
        · omega
        · exact hc
        · omega
      rcases h3 with ⟨hc, g⟩ | ⟨hc, g⟩ | ⟨hc, g⟩
      · rw [hz] at hc; simp at hc
      · exact e (zz_inj g)
      · rw [hz] at hc; simp at hc
    simp [e, this]

set_option maxHeartbeats 2000000 in
theorem walk (a b : Int) (a0 : -9223372036854775808 ≤ a) (a1 : a ≤ 9223372036854775807) (b0 : -9223372036854775808 ≤ b) (b1 : b ≤ 9223372036854775807) (w : World) :
    Calls Try.prog 8 #[.int .i64 a, .int .i64 b] w fun e w' => e = .returned (.bool true) ∧ Below w.heap.size w w' := by
  by_cases ha : a < 0
  · go_enter Try.func8, Try.ntmps8
    go_wp2_with fail
    refine (live_any w).mono ?_
    rintro r w1 ⟨rfl, hb1⟩
    go_wp2_with fail
    all_goals go_ret
    all_goals exact ⟨rfl, hb1⟩
  · by_cases hb : b < 0
    · go_enter Try.func8, Try.ntmps8
      go_wp2_with fail
      refine (live_any w).mono ?_
      rintro r w1 ⟨rfl, hb1⟩
      go_wp2_with fail
      all_goals go_ret
      all_goals exact ⟨rfl, hb1⟩
    · by_cases hs : sz (zz a) = sz (zz b)
      · have hne : (((sz (zz a) : Nat) : Int) != ((sz (zz b) : Nat) : Int)) = false := by simp [hs]
        have HR : Hid (decide (Lib.compareBytes (Lib.bytesOf (form (zz a))) (Lib.bytesOf (form (zz b))) < 0) = decide (a < b)) := rises (by omega) (by omega) hs
        have HS : Hid (decide (form (zz a) = form (zz b)) = (a == b)) := same hs
        clear hs
        go_enter Try.func8, Try.ntmps8
        go_wp2_with fail
        refine (live_any w).mono ?_
        rintro r w1 ⟨rfl, hb1⟩
        go_wp2_with fail
        refine (size_any _ _ a0 a1).mono ?_
        rintro r w' ⟨rfl, rfl⟩
        go_wp2_with fail
        refine (size_any _ _ b0 b1).mono ?_
        rintro r w' ⟨rfl, rfl⟩
        go_wp2_with fail
        refine (int_any (Row.nil _ _) (one_row .i64 w' a 2) (by intro x hx; simp at hx; omega) (by simp)).mono ?_
        rintro r w2 ⟨v2, rfl, hown2, hb2⟩
        rw [show [] ++ forms [a] = form (zz a) by simp [forms]] at hown2
        have R2 : Hid (Row .u8 w2 v2 (form (zz a))) := own_row hown2
        clear hown2
        go_wp2_with fail
        refine (int_any (Row.nil _ _) (one_row .i64 w2 b 2) (by intro x hx; simp at hx; omega) (by simp)).mono ?_
        rintro r w3 ⟨v3, rfl, hown3, hb3⟩
        rw [show [] ++ forms [b] = form (zz b) by simp [forms]] at hown3
        have R3 : Hid (Row .u8 w3 v3 (form (zz b))) := own_row hown3
        have R2' : Hid (Row .u8 w3 v2 (form (zz a))) := (R2.out.below (alloc_below _ _)).below hb3
        clear hown3
        go_wp2_with fail
        refine (compare_any R2'.out R3.out).mono ?_
        rintro r w4 ⟨rfl, hw4⟩
        obtain rfl : w3 = w4 := hw4.symm
        generalize Lib.compareBytes (Lib.bytesOf (form (zz a))) (Lib.bytesOf (form (zz b))) = c at HR ⊢
        have hc : decide (c < 0) = decide (a < b) := HR.out
        go_wp2_with fail
        refine (equal_any R2'.out R3.out (form_bd _) (form_bd _)).mono ?_
        rintro r w4 ⟨rfl, hw4⟩
        obtain rfl : w3 = w4 := hw4.symm
        rw [HS.out]
        go_wp2_with fail
        go_ret
        have s2 : w'.heap.size ≤ w2.heap.size := by have := hb2.size; simp at this; omega
        have s1 := hb1.size
        have B2 : Below w.heap.size w w2 := hb1.trans (((alloc_below w' _).trans (hb2.mono (by simp))).mono s1)
        have B3 : Below w.heap.size w w3 := B2.trans (((alloc_below w2 _).trans (hb3.mono (by simp))).mono (by omega))
        exact ⟨rfl, B3⟩
      · have hne : (((sz (zz a) : Nat) : Int) != ((sz (zz b) : Nat) : Int)) = true := by simp; omega
        clear hs
        go_enter Try.func8, Try.ntmps8
        go_wp2_with fail
        refine (live_any w).mono ?_
        rintro r w1 ⟨rfl, hb1⟩
        go_wp2_with fail
        refine (size_any _ _ a0 a1).mono ?_
        rintro r w' ⟨rfl, rfl⟩
        go_wp2_with fail
        refine (size_any _ _ b0 b1).mono ?_
        rintro r w' ⟨rfl, rfl⟩
        go_wp2_with fail
        all_goals go_ret
        all_goals exact ⟨rfl, hb1⟩

set_option maxRecDepth 100000 in
theorem lifted (os : Os) (started : os.Started) (H : Type) (enc : TypeId × Value → H) :
    ReturnsInHanded {} Try.checked os 8 .any (Rows.packRisesSpec.pre6 enc Try.prog Try.f8 Rows.packRisesRow.domain false) (Rows.packRisesSpec.post enc Try.prog Try.f8 false true false false) := by
  refine returnsInHanded_of_change (C := Try.checked) own started (by kernel_rfl) Try.func8
    (ChangeSpec.witness6 (enc := enc) (C := Try.checked) false ⟨#[], #[.int .i64 0, .int .i64 0], []⟩ 8 (by kernel_rfl) (by kernel_rfl) (by kernel_rfl) (by kernel_rfl)) ?_
  intro W base args ds gs before hval0 hW hcnd _
  have hval : ∀ (j : Nat) t v, Try.f8.params[j]? = some t → args[j]? = some v → Value.okWide Try.prog W .any base t v := hval0
  have hW' := hW
  obtain ⟨p, q, hA0, hV, rfl, hfz, hnd⟩ := hW
  have hA : DataW.TrodAll enc Try.prog W 0 (fun _ => true) true Try.f8.params.toList args.toList ds p := hA0
  rw [Try.params8] at hA hval
  obtain ⟨v0, vs0, d0, ds0, p0, q0, hargs, rfl, rfl, h0, r0⟩ := trodAll_cons hA
  obtain ⟨v1, vs1, d1, ds1, p1, q1, rfl, rfl, rfl, h1, r1⟩ := trodAll_cons r0
  obtain ⟨rfl, rfl, rfl⟩ := trodAll_nil r1
  obtain rfl : args = #[v0, v1] := by cases args; simp_all
  obtain ⟨rfl, rfl⟩ := trodVars_none hV
  obtain ⟨a0, rfl, rfl, rfl, w0⟩ := open_int Try.underlying2 (hval 0 2 v0 rfl rfl) h0
  obtain ⟨a1, rfl, rfl, rfl, w1⟩ := open_int Try.underlying2 (hval 1 2 v1 rfl rfl) h1
  clear hA0 hval0
  simp only [List.append_nil] at hW'
  have b0 := bounds_i64 w0
  have b1 := bounds_i64 w1
  refine (walk a0 a1 b0.1 b0.2 b1.1 b1.2 W).mono fun e W' ⟨he, bel⟩ => ?_
  subst he
  exact ⟨_, rfl, _, _, _, [], _, [], hW', trodAll_mk1 (shut_bool Try.underlying4 _), (trodAll_cons_mk (shut_int Try.underlying2 w0) (trodAll_cons_mk (shut_int Try.underlying2 w1) trodAll_mk0)), rfl, bel.frame _, fun h => by cases h⟩

theorem proved : Rows.PackRisesSaid :=
  OpenClaim.holds_of_wide 8 Try.f8 rfl rfl rfl rfl rfl rfl rfl ⟨rfl, rfl, rfl, rfl, rfl⟩ rfl rfl rfl rfl rfl (by kernel_rfl) Try.func8 (by kernel_rfl)
    (of_decide_eq_true (by kernel_rfl)) (by unfold Func.isWrapper; first | (rw [if_pos (by decide +kernel)]; kernel_rfl) | (rw [if_neg (by decide +kernel)]; exact ⟨rfl, rfl⟩))
    (fun os started H enc _ => lifted os started H enc)

end Go.Proofs.Ytpnoijmdhlkjlaa.packRises
