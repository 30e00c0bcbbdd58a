/-
  PROVED: the statement PackOne in its second form: where the argument holds at most 1048576 values, the law returns true: what any bytes say is packed again as it stood.
-/
import Derived.Test.YtpnoijmdhlkjlaaLiv
import Derived.Test.YtpnoijmdhlkjlaaCal
import Derived.Test.YtpnoijmdhlkjlaaBck
import Derived.Test.YtpnoijmdhlkjlaaArg
import Derived.Deep.RegionHeld3
import Derived.Deep.DrawnRows
import Derived.ProofKit
import Derived.OpenShut
import Derived.ChangeOld
namespace Go.Proofs.Ytpnoijmdhlkjlaa.packOne
open Go.ChangeShapes Go.WideShapes Go.ChangeAt Go.RowKit

theorem numbers_at {v : Value} {b : List Int} {w : World} (hv : Row .u8 w v b) (hu : U8 b) (hbig : b.length ≤ 1048576) :
    Calls Try.prog 19 #[v] w fun e w' => ∃ v1 v2, e = .returned (.tuple #[v1, v2]) ∧ Below w.heap.size w w' ∧ ∃ (xs ys : List Int) (K : Nat), Row .i64 w' v1 xs ∧ Row .i64 w' v2 ys ∧ b.take K = forms xs ∧ I64 xs ∧ xs.length ≤ 1048576 ∧ K ≤ b.length ∧
      ((ys.length = 0 ∧ K = 0) ∨ (0 < ys.length ∧ ys.getD (ys.length - 1) 0 = (K : Int))) := by
  refine (numbers_any hv hu hbig).mono ?_
  rintro r w2 ⟨v1, v2, rfl, hown1, hown2, hb2⟩
  obtain ⟨m1, m2, m3⟩ := numbers_back hu
  have HN := numbers_len b
  refine ⟨v1, v2, rfl, hb2, _, _, _, own_row hown1, own_row hown2, m2, m3, by rw [fsts_len]; omega, m1, ?_⟩
  by_cases hz : numbers b = []
  · left
    rw [hz]
    exact ⟨rfl, rfl⟩
  · right
    rw [snds_len]
    exact ⟨List.length_pos_iff.2 hz, last_get _ 0 hz⟩

set_option maxHeartbeats 2000000 in
theorem walk {v : Value} {b : List Int} (w : World) (hv : Row .u8 w v b) (hu : U8 b) (hbig : b.length ≤ 1048576) :
    Calls Try.prog 7 #[v] w fun e w' => e = .returned (.bool true) ∧ Below w.heap.size w w' := by
  have HV : Hid (Row .u8 w v b) := hv
  have HU : Hid (U8 b) := hu
  obtain ⟨pb, capb, rfl, gb1, gb2, _, _⟩ := hv
  clear hu
  go_enter Try.func7, Try.ntmps7
  go_wp2_with fail
  refine (live_any w).mono ?_
  rintro r w1 ⟨rfl, hb1⟩
  go_wp2_with fail
  refine (numbers_at (HV.out.below hb1) HU.out hbig).mono ?_
  rintro r w2 ⟨v1, v2, rfl, hb2, xs, ys, K, R1, R2, m1, m2, m3, m4, hor⟩
  have R1 : Hid (Row .i64 w2 v1 xs) := R1
  have M1 : Hid (b.take K = forms xs) := m1
  have M2 : Hid (I64 xs) := m2
  have B2 : Below w.heap.size w w2 := hb1.trans (hb2.mono hb1.size)
  clear m1 m2 hb2
  obtain ⟨p1, cap1, rfl, q1, q2, _, _⟩ := id R1.out
  obtain ⟨p2, cap2, rfl, r1, r2, r3, r4⟩ := R2
  rcases hor with ⟨e2, rfl⟩ | ⟨hn0, hget⟩
  · have hcx := trivial
    have hn0 := trivial
    clear r3 r4
    go_wp2_with fail
    clear hcx hn0 r1 r2
    have hk0 : (0 : Int) ≤ ((0 : Nat) : Int) := by omega
    have hk2 : ((0 : Nat) : Int) ≤ (b.length : Int) := by omega
    have hk3 : ((0 : Nat) : Int) ≤ (capb : Int) := by omega
    have hk1 : decide (b.length < 0) = false := decide_eq_false (by omega)
    have HB2 : Hid (Row .u8 w2.drew (.slice pb b.length capb) b) := (HV.out.below B2.drew)
    have ER : Hid (decide (forms xs = b.take 0) = true) := decide_eq_true M1.out.symm
    go_region_held3 (fun _ => True) (trivial) (first
      | (go_at_call 13; refine (int_any (w := w2.drew) (Row.nil _ _) (R1.out.below ((Below.refl _ _).drew)) M2.out (by simp; omega)).mono ?_; rintro r w3 ⟨v3, rfl, hown3, hb3⟩)
      | (go_at_call 12; refine (equal_any (own_row hown3) ((HB2.out.below hb3).take m4) (forms_bd xs) (U8.take HU.out 0)).mono ?_; rintro r w' ⟨rfl, hw'⟩; obtain rfl : w3 = w' := hw'.symm; rw [List.nil_append, ER.out]))
    have B3 : Below w.heap.size w w3 := B2.drew.trans (hb3.mono B2.size)
    clear hown3 hb3 HB2 R1 M1 M2 ER hk1
    go_wp2_with fail
    refine (open_any (HV.out.below B3) HU.out (by omega)).mono ?_
    rintro r w5 ⟨bu, v5, rfl, hbu, hu5, hb5⟩
    have B5 : Below w.heap.size w w5 := B3.trans (hb5.mono B3.size)
    have U5 : Hid (Unp w5 bu v5 b 0) := hu5
    have hbw : w.heap.size ≤ bu := by have := B3.size; omega
    clear hb5 hu5
    obtain ⟨x, l1, e1, hr⟩ : ∃ x l1 e1, readsStr b 0 (b.length : Int) = (x, l1, e1) := ⟨_, _, _, rfl⟩
    have HR : Hid (readsStr b 0 (b.length : Int) = (x, l1, e1)) := hr
    clear hr
    go_wp2_with fail
    refine (ustr_at U5.out (by omega) HR.out).mono ?_
    rintro r w6 ⟨v6, rfl, hg6, hown6, v7, hu6⟩
    have B6 : Below w.heap.size w w6 := B5.grown hg6 B5.size (fun g hg => by simp at hg; omega)
    have R6 : Hid (Row .u8 w6 v6 x) := own_row hown6
    have HU6 : Hid (Unp w6 bu v7 l1 e1) := hu6
    clear hown6 hu6 hg6 U5
    go_wp2_with fail
    refine (err_any HU6.out).mono ?_
    rintro r w' ⟨rfl, hw'⟩
    obtain rfl : w6 = w' := hw'.symm
    by_cases he : e1 = 0
    · subst he
      obtain ⟨t1, t2, t3⟩ := readsStr_back HU.out HR.out
      have T2 : Hid (form (zz x.length) ++ x = b.take (b.length - l1.length)) := t2
      have T3 : Hid (U8 x) := t3
      have hx : x.length ≤ b.length := by
        have := congrArg List.length t2
        rw [List.length_append, List.length_take] at this
        omega
      clear t2 t3 HR
      go_wp2_with fail
      refine (str_any (Row.nil _ _) R6.out (by simp; omega)).mono ?_
      rintro r w7 ⟨v8, rfl, hown8, hb8⟩
      have B7 : Below w.heap.size w w7 := B6.trans (hb8.mono B6.size)
      have HU7 : Hid (Unp w7 bu v7 l1 0) := HU6.out.below hb8
      have R8 : Hid (Row .u8 w7 v8 (form (zz x.length) ++ x)) := own_row hown8
      clear hown8 hb8 HU6 R6
      go_wp2_with fail
      refine (rest_any HU7.out).mono ?_
      rintro r w' ⟨rfl, hw'⟩
      obtain rfl : w7 = w' := hw'.symm
      go_wp2_with fail
      refine (equal_any R8.out ((HV.out.below B7).take (by omega)) (U8.append (form_bd _) T3.out) (U8.take HU.out _)).mono ?_
      rintro r w' ⟨rfl, hw'⟩
      obtain rfl : w7 = w' := hw'.symm
      rw [decide_eq_true T2.out]
      go_wp2_with fail
      go_ret
      exact ⟨rfl, B7⟩
    · have he' : (e1 != 0) = true := by simp [he]
      go_wp2_with fail
      go_ret
      exact ⟨rfl, B6⟩
  · obtain ⟨bb, o, rfl, hc⟩ := r4 hn0
    have hcx : w2.cell? ⟨bb, o + (ys.length - 1), none⟩ = some (.int .i64 (K : Int)) := by
      rw [hc _ (by omega), hget]
    clear hc hget r4 r3
    go_wp2_with fail
    clear hcx hn0 r1 r2
    have hk0 : (0 : Int) ≤ ((K : Nat) : Int) := by omega
    have hk2 : ((K : Nat) : Int) ≤ (b.length : Int) := by omega
    have hk3 : ((K : Nat) : Int) ≤ (capb : Int) := by omega
    have hk1 : decide (b.length < K) = false := decide_eq_false (by omega)
    have HB2 : Hid (Row .u8 w2.drew (.slice pb b.length capb) b) := (HV.out.below B2.drew)
    have ER : Hid (decide (forms xs = b.take K) = true) := decide_eq_true M1.out.symm
    go_region_held3 (fun _ => True) (trivial) (first
      | (go_at_call 13; refine (int_any (w := w2.drew) (Row.nil _ _) (R1.out.below ((Below.refl _ _).drew)) M2.out (by simp; omega)).mono ?_; rintro r w3 ⟨v3, rfl, hown3, hb3⟩)
      | (go_at_call 12; refine (equal_any (own_row hown3) ((HB2.out.below hb3).take m4) (forms_bd xs) (U8.take HU.out K)).mono ?_; rintro r w' ⟨rfl, hw'⟩; obtain rfl : w3 = w' := hw'.symm; rw [List.nil_append, ER.out]))
    have B3 : Below w.heap.size w w3 := B2.drew.trans (hb3.mono B2.size)
    clear hown3 hb3 HB2 R1 M1 M2 ER hk1
    go_wp2_with fail
    refine (open_any (HV.out.below B3) HU.out (by omega)).mono ?_
    rintro r w5 ⟨bu, v5, rfl, hbu, hu5, hb5⟩
    have B5 : Below w.heap.size w w5 := B3.trans (hb5.mono B3.size)
    have U5 : Hid (Unp w5 bu v5 b 0) := hu5
    have hbw : w.heap.size ≤ bu := by have := B3.size; omega
    clear hb5 hu5
    obtain ⟨x, l1, e1, hr⟩ : ∃ x l1 e1, readsStr b 0 (b.length : Int) = (x, l1, e1) := ⟨_, _, _, rfl⟩
    have HR : Hid (readsStr b 0 (b.length : Int) = (x, l1, e1)) := hr
    clear hr
    go_wp2_with fail
    refine (ustr_at U5.out (by omega) HR.out).mono ?_
    rintro r w6 ⟨v6, rfl, hg6, hown6, v7, hu6⟩
    have B6 : Below w.heap.size w w6 := B5.grown hg6 B5.size (fun g hg => by simp at hg; omega)
    have R6 : Hid (Row .u8 w6 v6 x) := own_row hown6
    have HU6 : Hid (Unp w6 bu v7 l1 e1) := hu6
    clear hown6 hu6 hg6 U5
    go_wp2_with fail
    refine (err_any HU6.out).mono ?_
    rintro r w' ⟨rfl, hw'⟩
    obtain rfl : w6 = w' := hw'.symm
    by_cases he : e1 = 0
    · subst he
      obtain ⟨t1, t2, t3⟩ := readsStr_back HU.out HR.out
      have T2 : Hid (form (zz x.length) ++ x = b.take (b.length - l1.length)) := t2
      have T3 : Hid (U8 x) := t3
      have hx : x.length ≤ b.length := by
        have := congrArg List.length t2
        rw [List.length_append, List.length_take] at this
        omega
      clear t2 t3 HR
      go_wp2_with fail
      refine (str_any (Row.nil _ _) R6.out (by simp; omega)).mono ?_
      rintro r w7 ⟨v8, rfl, hown8, hb8⟩
      have B7 : Below w.heap.size w w7 := B6.trans (hb8.mono B6.size)
      have HU7 : Hid (Unp w7 bu v7 l1 0) := HU6.out.below hb8
      have R8 : Hid (Row .u8 w7 v8 (form (zz x.length) ++ x)) := own_row hown8
      clear hown8 hb8 HU6 R6
      go_wp2_with fail
      refine (rest_any HU7.out).mono ?_
      rintro r w' ⟨rfl, hw'⟩
      obtain rfl : w7 = w' := hw'.symm
      go_wp2_with fail
      refine (equal_any R8.out ((HV.out.below B7).take (by omega)) (U8.append (form_bd _) T3.out) (U8.take HU.out _)).mono ?_
      rintro r w' ⟨rfl, hw'⟩
      obtain rfl : w7 = w' := hw'.symm
      rw [decide_eq_true T2.out]
      go_wp2_with fail
      go_ret
      exact ⟨rfl, B7⟩
    · have he' : (e1 != 0) = true := by simp [he]
      go_wp2_with fail
      go_ret
      exact ⟨rfl, B6⟩
theorem short {H : Type} {d0 : DataW H} (hk : Rows.uptoSmall H [d0] = true) : Rows.uptoBulk d0 ≤ 1048576 := by
  have h : Rows.uptoBulkAll [d0] ≤ 1048576 := of_decide_eq_true hk
  simp only [Rows.uptoBulkAll] at h
  omega

theorem contract (H : Type) (enc : TypeId × Value → H) (W : World) (base : Nat) (args : Array Value) (ds gs : List (DataW H)) (before : List MemPlace)
    (hval : ∀ (j : Nat) t v, Try.f7.params[j]? = some t → args[j]? = some v → Value.okWide Try.prog W .any base t v)
    (hW : DataW.Whole enc Try.prog Try.f7.params.toList Rows.packOneSpec.vars false W args.toList ds gs before) (hk : Rows.uptoSmall H (ds ++ gs) = true) :
    Calls Try.prog 7 args W fun e W' => ∃ v, e = .returned v ∧ Rows.packOneSpec.post enc Try.prog Try.f7 false true false false W args v W' := by
  have hW' := hW
  obtain ⟨p, q, hA0, hV, rfl, hfz, hnd⟩ := hW
  have hA : DataW.TrodAll enc Try.prog W 0 (fun _ => true) true Try.f7.params.toList args.toList ds p := hA0
  rw [Try.params7] at hA hval
  obtain ⟨v0, vs0, d0, ds0, p0, q0, hargs, rfl, rfl, h0, r0⟩ := trodAll_cons hA
  obtain ⟨rfl, rfl, rfl⟩ := trodAll_nil r0
  obtain rfl : args = #[v0] := by cases args; simp_all
  obtain ⟨rfl, rfl⟩ := trodVars_none hV
  obtain ⟨a0, len0, cap0, rfl⟩ := okWide_slice Try.underlying22 (hval 0 22 v0 rfl rfl)
  have k0 := h0
  have lt0 : ∀ x ∈ p0, x.block < W.heap.size := by obtain ⟨m, hm⟩ := k0; exact DataW.trod_lt m _ _ _ hm
  obtain ⟨f0, hf0⟩ := h0
  obtain ⟨l0, e0, R0, wf0, D0⟩ := arg_row Try.underlying22 Try.underlying5 (by kernel_rfl) hf0
  simp only [List.append_nil] at hk
  have s0 := short hk
  have b0 := D0.bulk
  clear hA0
  refine (walk W R0 (wf_u8 wf0) (by omega)).mono fun e W' ⟨he, bel⟩ => ?_
  subst he
  exact ⟨_, rfl, _, _, _, [], _, [], hW', trodAll_mk1 (shut_bool Try.underlying4 _), (trodAll_cons_mk (Below.trod Try.laidOut (by kernel_rfl) (of_decide_eq_true (by kernel_rfl)) k0 bel lt0) trodAll_mk0), rfl, bel.frame _, fun h => by cases h⟩

set_option maxRecDepth 100000 in
theorem lifted (os : Os) (started : os.Started) (H : Type) (enc : TypeId × Value → H) (F : Stop.Interp) :
    ReturnsInHanded {} Try.checked os 7 .any ((Rows.OpenSpec.upto Rows.packOneSpec).pre6 enc Try.prog Try.f7 Rows.packOneUptoRow.domain false) (((Rows.OpenSpec.upto Rows.packOneSpec).at F).post enc Try.prog Try.f7 false true false false) := by
  refine returnsInHanded_of_cond (C := Try.checked) (s := Rows.OpenSpec.upto Rows.packOneSpec) (k := Rows.uptoSmall) rfl Try.ownK started (by kernel_rfl) Try.func7
    (OpenSpec.witness (enc := enc) (C := Try.checked) (s := Rows.OpenSpec.upto Rows.packOneSpec) (k := Rows.uptoSmall) rfl false ⟨#[], #[.slice none 0 0], []⟩ 8 (by kernel_rfl) (by kernel_rfl) (by kernel_rfl)
      (x := ([.nil], [], [])) (by kernel_rfl) rfl (by kernel_rfl)) ?_
  intro W base args ds gs before hval hW _ hk _
  exact contract H enc W base args ds gs before hval hW hk

theorem proved : Rows.PackOneUptoSaid :=
  OpenClaim.holds_of_cond 7 Try.f7 rfl rfl rfl rfl rfl rfl rfl ⟨rfl, rfl, rfl, rfl, rfl⟩ rfl rfl rfl rfl rfl (by kernel_rfl) Try.func7 (by kernel_rfl)
    (of_decide_eq_true (by kernel_rfl)) (by unfold Func.isWrapper; first | (rw [if_pos (by decide +kernel)]; kernel_rfl) | (rw [if_neg (by decide +kernel)]; exact ⟨rfl, rfl⟩))
    (fun os started H enc _ F => lifted os started H enc F)

end Go.Proofs.Ytpnoijmdhlkjlaa.packOne
