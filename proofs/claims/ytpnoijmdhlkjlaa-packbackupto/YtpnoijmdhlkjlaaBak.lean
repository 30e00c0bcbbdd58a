/-
  PROVED: the statement PackBack in its second form: where the arguments hold together at most 1048576 values, the law returns true: what is packed is unpacked as it was, whatever stands behind.
-/
import Derived.Test.YtpnoijmdhlkjlaaLiv
import Derived.Test.YtpnoijmdhlkjlaaMth
import Derived.Test.YtpnoijmdhlkjlaaArg
namespace Go.Proofs.Ytpnoijmdhlkjlaa.packBack
open Go.ChangeShapes Go.WideShapes Go.ChangeAt Go.RowKit

theorem drop_step {l : List Int} {k : Nat} (h : k < l.length) (s : List Int) : forms (l.drop k) ++ s = form (zz (l.getD k 0)) ++ (forms (l.drop (k + 1)) ++ s) := by
  rw [List.drop_eq_getElem_cons h, forms_cons, List.append_assoc]
  simp [List.getD, List.getElem?_eq_getElem h]

set_option maxHeartbeats 2000000 in
theorem walk {vl vx vr : Value} {l x rest : List Int} (w : World) (hl : Row .i64 w vl l) (hx : Row .u8 w vx x) (hr : Row .u8 w vr rest) (il : I64 l) (ux : U8 x) (ur : U8 rest) (sl : l.length ≤ 1048576) (sx : x.length ≤ 1048576) (sr : rest.length ≤ 1048576) :
    Calls Try.prog 6 #[vl, vx, vr] w fun e w' => e = .returned (.bool true) ∧ Below w.heap.size w w' := by
  obtain ⟨i0, hI, hz0, hz1, hz2⟩ := info_parts Try.infoU8
  have HX : Hid (Row .u8 w vx x) := hx
  have HL : Hid (Row .i64 w vl l) := hl
  have HR : Hid (Row .u8 w vr rest) := hr
  have HI : Hid (I64 l) := il
  have HUX : Hid (U8 x) := ux
  have HUR : Hid (U8 rest) := ur
  obtain ⟨p, cap, rfl, g1, g2, g3, g4⟩ := hl
  have HC : Hid (0 < l.length → ∃ b o, p = some ⟨b, o, none⟩ ∧ ∀ i, i < l.length → w.cell? ⟨b, o + i, none⟩ = some (.int .i64 (l.getD i 0))) := g4
  obtain ⟨px, capx, rfl, gx1, gx2, _⟩ := hx
  obtain ⟨pr, capr, rfl, gr1, gr2, _⟩ := hr
  clear g3 g4 il ux ur
  have fl := forms_len l HI.out
  have fx : (form (zz (x.length : Int))).length ≤ 10 := sz_le10 (zz_lt _ (by omega) (by omega))
  go_enter Try.func6, Try.ntmps6
  go_wp2_with fail
  refine (live_any w).mono ?_
  rintro r w1 ⟨rfl, hb1⟩
  go_wp2_with fail
  refine (int_any (Row.nil _ _) (HL.out.below hb1) HI.out (by simp; omega)).mono ?_
  rintro r w2 ⟨v2, rfl, hown2, hb2⟩
  rw [List.nil_append] at hown2
  have R2 : Hid (Row .u8 w2 v2 (forms l)) := own_row hown2
  have B2 : Below w.heap.size w w2 := hb1.trans (hb2.mono hb1.size)
  clear hown2 hb2
  go_wp2_with fail
  refine (str_any R2.out (HX.out.below B2) (by omega)).mono ?_
  rintro r w3 ⟨v3, rfl, hown3, hb3⟩
  have B3 : Below w.heap.size w w3 := B2.trans (hb3.mono B2.size)
  have O3 : Hid (w3.ownsRow w2.heap.size 5 1 v3 (forms l ++ form (zz x.length) ++ x).length ((forms l ++ form (zz x.length) ++ x).map (Value.int .u8))) := hown3
  have hR3 := own_row hown3
  have N3 : Hid (∀ k, v3.ownBlock = some k → w2.heap.size ≤ k ∧ k < w3.heap.size) := hown3.lt
  have S3 : Hid (w2.heap.size ≤ w3.heap.size) := hb3.size
  clear hown3 hb3 hR3 R2
  go_wp2_with (at_builtin; refine append_row _ rfl (.tmp 15) (.tmp 16) 22 rfl w2.heap.size 5 i0 .u8 1 Try.underlying22 hI hz0 hz1 hz2 _ _ _ rfl O3.out _ rest rfl (HR.out.below B3) ?_ ?_ ?_ ?_)
  · simp only [List.length_append]; omega
  · simp only [List.length_append]; omega
  · exact S3.out
  intro v4 w4 hown4 hgrow4
  have B4 : Below w.heap.size w w4 := B3.grown hgrow4 B3.size (fun k hk => by have := (N3.out k hk).1; have := B2.size; omega)
  have R4 : Hid (Row .u8 w4 v4 (forms l ++ form (zz x.length) ++ x ++ rest)) := by
    refine own_row (n := (forms l ++ form (zz x.length) ++ x).length + rest.length) (base := w2.heap.size) (e := 5) ?_
    rw [List.map_append (l₁ := forms l ++ form (zz x.length) ++ x)]
    simpa using hown4
  clear hown4 hgrow4 O3 N3 S3 B3
  go_wp2_with fail
  refine (open_any R4.out (((U8.append (forms_bd l) (form_bd _)).append HUX.out).append HUR.out) (by simp only [List.length_append]; omega)).mono ?_
  rintro r w5 ⟨bu, v5, rfl, hbu, hu5, hb5⟩
  have B5 : Below w.heap.size w w5 := B4.trans (hb5.mono B4.size)
  have hbw : w.heap.size ≤ bu := by have := B4.size; omega
  have U5 : Hid (Unp w5 bu v5 (forms (l.drop 0) ++ (form (zz x.length) ++ (x ++ rest))) 0) := by
    show Unp _ _ _ _ _
    simpa [List.append_assoc] using hu5
  clear hu5 hb5 R4
  go_wp2
  go_loopw [21] (fun i wr => ∃ k : Nat, k ≤ l.length ∧ i = .int .i64 (k : Int) ∧ (∃ v, Unp wr bu v (forms (l.drop k) ++ (form (zz x.length) ++ (x ++ rest))) 0) ∧ Below w.heap.size w wr) (fun i _ => l.length - (intOf i).toNat)
  case atStart => exact ⟨0, Nat.zero_le _, rfl, ⟨v5, U5.out⟩, B5⟩
  case round =>
    obtain ⟨k, hk, rfl, ⟨vu, hu⟩, hbr⟩ := hrel
    have HU : Hid (Unp wr bu vu (forms (l.drop k) ++ (form (zz x.length) ++ (x ++ rest))) 0) := hu
    clear hu U5
    by_cases hlt : k < l.length
    · obtain ⟨bb, o, rfl, hc⟩ := HC.out (by omega)
      obtain ⟨n, hn⟩ : ∃ n, n = l.getD k 0 := ⟨_, rfl⟩
      have hcx : wr.cell? ⟨bb, o + k, none⟩ = some (.int .i64 n) := by rw [hn]; exact cell_later hbr (hc k hlt)
      obtain ⟨n0, n1⟩ := HI.out.at hlt
      have HRD : Hid (reads (forms (l.drop k) ++ (form (zz x.length) ++ (x ++ rest))) 0 n n = (n, forms (l.drop (k + 1)) ++ (form (zz x.length) ++ (x ++ rest)), 0)) := by
        show _ = _
        rw [drop_step hlt, ← hn]
        rw [← hn] at n0 n1
        exact reads_form _ n0 n1 (Int.le_refl _) (Int.le_refl _)
      clear hc hn HC
      go_wp2_with fail
      refine (uint_at HU.out HRD.out).mono ?_
      rintro r w6 ⟨rfl, hg6, p6, cap6, hu6⟩
      have HU6 : Hid (Unp w6 bu (.slice p6 (forms (l.drop (k + 1)) ++ (form (zz x.length) ++ (x ++ rest))).length cap6) (forms (l.drop (k + 1)) ++ (form (zz x.length) ++ (x ++ rest))) 0) := hu6
      have B6 : Below w.heap.size w w6 := hbr.grown hg6 hbr.size (fun g hg => by simp at hg; omega)
      have hne : (n != n) = false := by simp
      clear hu6 hg6 HU HRD
      go_wp2_with fail
      refine (err_any HU6.out).mono ?_
      rintro r w' ⟨rfl, hw'⟩
      obtain rfl : w6 = w' := hw'.symm
      go_wp2_with fail
      go_roundw
      case rel => exact ⟨k + 1, by omega, by go_num, ⟨_, HU6.out⟩, B6⟩
      case measure => simp [intOf]; omega
    · have hkl : k = l.length := by omega
      subst hkl
      have HU' : Hid (Unp wr bu vu (form (zz x.length) ++ (x ++ rest)) 0) := by
        show Unp _ _ _ _ _
        simpa [List.drop_length, forms] using HU.out
      have HRS : Hid (readsStr (form (zz x.length) ++ (x ++ rest)) 0 x.length = (x, rest, 0)) := readsStr_form x rest (by omega)
      clear HU HC
      go_wp2_with fail
      refine (ustr_at HU'.out (by simp only [List.length_append]; omega) HRS.out).mono ?_
      rintro r w6 ⟨v6, rfl, hg6, hown6, v7, hu6⟩
      have B6 : Below w.heap.size w w6 := hbr.grown hg6 hbr.size (fun g hg => by simp at hg; omega)
      have R6 : Hid (Row .u8 w6 v6 x) := own_row hown6
      have HU6 : Hid (Unp w6 bu v7 rest 0) := hu6
      clear hown6 hu6 hg6 HU' HRS
      go_wp2_with fail
      refine (equal_any R6.out (HX.out.below B6) HUX.out HUX.out).mono ?_
      rintro r w' ⟨rfl, hw'⟩
      obtain rfl : w6 = w' := hw'.symm
      rw [decide_eq_true rfl]
      go_wp2_with fail
      refine (rest_any HU6.out).mono ?_
      rintro r w' ⟨rfl, hw'⟩
      obtain rfl : w6 = w' := hw'.symm
      go_wp2_with fail
      refine (err_any HU6.out).mono ?_
      rintro r w' ⟨rfl, hw'⟩
      obtain rfl : w6 = w' := hw'.symm
      go_wp2_with fail
      go_ret
      exact ⟨rfl, B6⟩
theorem short {H : Type} {d0 d1 d2 : DataW H} (hk : Rows.uptoSmall H [d0, d1, d2] = true) : Rows.uptoBulk d0 ≤ 1048576 ∧ Rows.uptoBulk d1 ≤ 1048576 ∧ Rows.uptoBulk d2 ≤ 1048576 := by
  have h : Rows.uptoBulkAll [d0, d1, d2] ≤ 1048576 := of_decide_eq_true hk
  simp only [Rows.uptoBulkAll] at h
  omega

theorem contract (H : Type) (enc : TypeId × Value → H) (W : World) (base : Nat) (args : Array Value) (ds gs : List (DataW H)) (before : List MemPlace)
    (hval : ∀ (j : Nat) t v, Try.f6.params[j]? = some t → args[j]? = some v → Value.okWide Try.prog W .any base t v)
    (hW : DataW.Whole enc Try.prog Try.f6.params.toList Rows.packBackSpec.vars false W args.toList ds gs before) (hk : Rows.uptoSmall H (ds ++ gs) = true) :
    Calls Try.prog 6 args W fun e W' => ∃ v, e = .returned v ∧ Rows.packBackSpec.post enc Try.prog Try.f6 false true false false W args v W' := by
  have hW' := hW
  obtain ⟨p, q, hA0, hV, rfl, hfz, hnd⟩ := hW
  have hA : DataW.TrodAll enc Try.prog W 0 (fun _ => true) true Try.f6.params.toList args.toList ds p := hA0
  rw [Try.params6] at hA hval
  obtain ⟨v0, vs0, d0, ds0, p0, q0, hargs, rfl, rfl, h0, r0⟩ := trodAll_cons hA
  obtain ⟨v1, vs1, d1, ds1, p1, q1, rfl, rfl, rfl, h1, r1⟩ := trodAll_cons r0
  obtain ⟨v2, vs2, d2, ds2, p2, q2, rfl, rfl, rfl, h2, r2⟩ := trodAll_cons r1
  obtain ⟨rfl, rfl, rfl⟩ := trodAll_nil r2
  obtain rfl : args = #[v0, v1, v2] := by cases args; simp_all
  obtain ⟨rfl, rfl⟩ := trodVars_none hV
  obtain ⟨a0, len0, cap0, rfl⟩ := okWide_slice Try.underlying23 (hval 0 23 v0 rfl rfl)
  obtain ⟨a1, len1, cap1, rfl⟩ := okWide_slice Try.underlying22 (hval 1 22 v1 rfl rfl)
  obtain ⟨a2, len2, cap2, rfl⟩ := okWide_slice Try.underlying22 (hval 2 22 v2 rfl rfl)
  have k0 := h0
  have lt0 : ∀ x ∈ p0, x.block < W.heap.size := by obtain ⟨m, hm⟩ := k0; exact DataW.trod_lt m _ _ _ hm
  obtain ⟨f0, hf0⟩ := h0
  obtain ⟨l0, e0, R0, wf0, D0⟩ := arg_row Try.underlying23 Try.underlying2 (by kernel_rfl) hf0
  have k1 := h1
  have lt1 : ∀ x ∈ p1, x.block < W.heap.size := by obtain ⟨m, hm⟩ := k1; exact DataW.trod_lt m _ _ _ hm
  obtain ⟨f1, hf1⟩ := h1
  obtain ⟨l1, e1, R1, wf1, D1⟩ := arg_row Try.underlying22 Try.underlying5 (by kernel_rfl) hf1
  have k2 := h2
  have lt2 : ∀ x ∈ p2, x.block < W.heap.size := by obtain ⟨m, hm⟩ := k2; exact DataW.trod_lt m _ _ _ hm
  obtain ⟨f2, hf2⟩ := h2
  obtain ⟨l2, e2, R2, wf2, D2⟩ := arg_row Try.underlying22 Try.underlying5 (by kernel_rfl) hf2
  simp only [List.append_nil] at hk
  obtain ⟨s0, s1, s2⟩ := short hk
  have b0 := D0.bulk
  have b1 := D1.bulk
  have b2 := D2.bulk
  clear hA0
  refine (walk W R0 R1 R2 (wf_i64 wf0) (wf_u8 wf1) (wf_u8 wf2) (by omega) (by omega) (by omega)).mono fun e W' ⟨he, bel⟩ => ?_
  subst he
  exact ⟨_, rfl, _, _, _, [], _, [], hW', trodAll_mk1 (shut_bool Try.underlying4 _), (trodAll_cons_mk (Below.trod Try.laidOut (by kernel_rfl) (of_decide_eq_true (by kernel_rfl)) k0 bel lt0) (trodAll_cons_mk (Below.trod Try.laidOut (by kernel_rfl) (of_decide_eq_true (by kernel_rfl)) k1 bel lt1) (trodAll_cons_mk (Below.trod Try.laidOut (by kernel_rfl) (of_decide_eq_true (by kernel_rfl)) k2 bel lt2) trodAll_mk0))), rfl, bel.frame _, fun h => by cases h⟩

set_option maxRecDepth 100000 in
theorem lifted (os : Os) (started : os.Started) (H : Type) (enc : TypeId × Value → H) (F : Stop.Interp) :
    ReturnsInHanded {} Try.checked os 6 .any ((Rows.OpenSpec.upto Rows.packBackSpec).pre6 enc Try.prog Try.f6 Rows.packBackUptoRow.domain false) (((Rows.OpenSpec.upto Rows.packBackSpec).at F).post enc Try.prog Try.f6 false true false false) := by
  refine returnsInHanded_of_cond (C := Try.checked) (s := Rows.OpenSpec.upto Rows.packBackSpec) (k := Rows.uptoSmall) rfl Try.ownK started (by kernel_rfl) Try.func6
    (OpenSpec.witness (enc := enc) (C := Try.checked) (s := Rows.OpenSpec.upto Rows.packBackSpec) (k := Rows.uptoSmall) rfl false ⟨#[], #[.slice none 0 0, .slice none 0 0, .slice none 0 0], []⟩ 8 (by kernel_rfl) (by kernel_rfl) (by kernel_rfl)
      (x := ([.nil, .nil, .nil], [], [])) (by kernel_rfl) rfl (by kernel_rfl)) ?_
  intro W base args ds gs before hval hW _ hk _
  exact contract H enc W base args ds gs before hval hW hk

theorem proved : Rows.PackBackUptoSaid :=
  OpenClaim.holds_of_cond 6 Try.f6 rfl rfl rfl rfl rfl rfl rfl ⟨rfl, rfl, rfl, rfl, rfl⟩ rfl rfl rfl rfl rfl (by kernel_rfl) Try.func6 (by kernel_rfl)
    (of_decide_eq_true (by kernel_rfl)) (by unfold Func.isWrapper; first | (rw [if_pos (by decide +kernel)]; kernel_rfl) | (rw [if_neg (by decide +kernel)]; exact ⟨rfl, rfl⟩))
    (fun os started H enc _ F => lifted os started H enc F)

end Go.Proofs.Ytpnoijmdhlkjlaa.packBack
