/-
  PROVED: the statement PackPuts in its second form: where the arguments hold together at most 1048576 values, the law returns true: the forms of any numbers and any byte string.
-/
import Derived.Test.YtpnoijmdhlkjlaaLiv
import Derived.Test.YtpnoijmdhlkjlaaRef
import Derived.Test.YtpnoijmdhlkjlaaArg
namespace Go.Proofs.Ytpnoijmdhlkjlaa.packPuts
open Go.ChangeShapes Go.WideShapes Go.ChangeAt Go.RowKit

set_option maxHeartbeats 2000000 in
theorem walk {vb vl vx : Value} {b l x : List Int} (w : World) (hb : Row .u8 w vb b) (hl : Row .i64 w vl l) (hx : Row .u8 w vx x) (ub : U8 b) (il : I64 l) (ux : U8 x) (sb : b.length ≤ 1048576) (sl : l.length ≤ 1048576) (sx : x.length ≤ 1048576) :
    Calls Try.prog 3 #[vb, vl, vx] w fun e w' => e = .returned (.bool true) ∧ Below w.heap.size w w' := by
  have HB : Hid (Row .u8 w vb b) := hb
  have HL : Hid (Row .i64 w vl l) := hl
  have HX : Hid (Row .u8 w vx x) := hx
  have HI : Hid (I64 l) := il
  have HUB : Hid (U8 b) := ub
  have HUX : Hid (U8 x) := ux
  obtain ⟨p, cap, rfl, g1, g2, g3, g4⟩ := hl
  have HC : Hid (0 < l.length → ∃ b o, p = some ⟨b, o, none⟩ ∧ ∀ i, i < l.length → w.cell? ⟨b, o + i, none⟩ = some (.int .i64 (l.getD i 0))) := g4
  clear hb hx g3 g4 il ub ux
  go_enter Try.func3, Try.ntmps3
  go_wp2_with fail
  refine (live_any w).mono ?_
  rintro r w1 ⟨rfl, hb1⟩
  go_wp2_with fail
  go_loopw [13] (fun i wr => ∃ k : Nat, k ≤ l.length ∧ i = .int .i64 (k : Int) ∧ Below w.heap.size w wr) (fun i _ => l.length - (intOf i).toNat)
  case atStart => exact ⟨0, Nat.zero_le _, rfl, hb1⟩
  case round =>
    obtain ⟨k, hk, rfl, hbr⟩ := hrel
    by_cases hlt : k < l.length
    · obtain ⟨bb, o, rfl, hc⟩ := HC.out (by omega)
      obtain ⟨n, hn⟩ : ∃ n, n = l.getD k 0 := ⟨_, rfl⟩
      have hcx : wr.cell? ⟨bb, o + k, none⟩ = some (.int .i64 n) := by rw [hn]; exact cell_later hbr (hc k hlt)
      obtain ⟨n0, n1⟩ := HI.out.at hlt
      rw [← hn] at n0 n1
      clear hc hn HC
      go_wp2_with fail
      refine (size_any _ _ n0 n1).mono ?_
      rintro r w' ⟨rfl, hw'⟩
      obtain rfl : wr = w' := hw'.symm
      go_wp2_with fail
      refine (one_any (Row.nil _ _) n0 n1 (by decide)).mono ?_
      rintro r w2 ⟨v2, rfl, hown2, hb2⟩
      have hlen : ([] ++ form (zz n)).length = sz (zz n) := rfl
      have hR2 := own_row hown2
      obtain ⟨p2, cap2, rfl, _⟩ := id hR2
      have B2 : Below w.heap.size w w2 := hbr.trans (hb2.mono hbr.size)
      rw [hlen] at *
      have hne : (((sz (zz n) : Nat) : Int) != ((sz (zz n) : Nat) : Int)) = false := by simp
      clear hown2 hR2 hlen hb2
      go_wp2
      go_roundw
      case rel => exact ⟨k + 1, by omega, by go_num, B2⟩
      case measure => simp [intOf]; omega
    · clear HC
      go_wp2_with fail
      refine (int_any (HB.out.below hbr) (HL.out.below hbr) HI.out (by omega)).mono ?_
      rintro r w2 ⟨v2, rfl, hown2, hb2⟩
      have R2 : Hid (Row .u8 w2 v2 (b ++ forms l)) := own_row hown2
      have B2 : Below w.heap.size w w2 := hbr.trans (hb2.mono hbr.size)
      clear hown2 hb2
      go_wp2_with fail
      refine (rint_any (HB.out.below B2) (HL.out.below B2) HI.out (by omega)).mono ?_
      rintro r w3 ⟨v3, rfl, hown3, hb3⟩
      have R3 : Hid (Row .u8 w3 v3 (b ++ forms l)) := own_row hown3
      have R2' : Hid (Row .u8 w3 v2 (b ++ forms l)) := R2.out.below hb3
      have B3 : Below w.heap.size w w3 := B2.trans (hb3.mono B2.size)
      clear hown3 hb3 R2 B2
      go_wp2_with fail
      refine (equal_any R2'.out R3.out (HUB.out.append (forms_bd l)) (HUB.out.append (forms_bd l))).mono ?_
      rintro r w' ⟨rfl, hw'⟩
      obtain rfl : w3 = w' := hw'.symm
      rw [decide_eq_true rfl]
      clear R2' R3
      go_wp2_with fail
      refine (str_any (HB.out.below B3) (HX.out.below B3) (by omega)).mono ?_
      rintro r w4 ⟨v4, rfl, hown4, hb4⟩
      have R4 : Hid (Row .u8 w4 v4 (b ++ form (zz x.length) ++ x)) := own_row hown4
      have B4 : Below w.heap.size w w4 := B3.trans (hb4.mono B3.size)
      clear hown4 hb4
      go_wp2_with fail
      refine (rstr_any (HB.out.below B4) (HX.out.below B4) (by omega)).mono ?_
      rintro r w5 ⟨v5, rfl, hown5, hb5⟩
      have R5 : Hid (Row .u8 w5 v5 (b ++ form (zz x.length) ++ x)) := own_row hown5
      have R4' : Hid (Row .u8 w5 v4 (b ++ form (zz x.length) ++ x)) := R4.out.below hb5
      have B5 : Below w.heap.size w w5 := B4.trans (hb5.mono B4.size)
      clear hown5 hb5 R4
      go_wp2_with fail
      refine (equal_any R4'.out R5.out ((HUB.out.append (form_bd _)).append HUX.out) ((HUB.out.append (form_bd _)).append HUX.out)).mono ?_
      rintro r w' ⟨rfl, hw'⟩
      obtain rfl : w5 = w' := hw'.symm
      rw [decide_eq_true rfl]
      go_wp2_with fail
      go_ret
      exact ⟨rfl, B5⟩

theorem short {H : Type} {d0 d1 d2 : DataW H} (hk : Rows.uptoSmall H [d0, d1, d2] = true) : Rows.uptoBulk d0 ≤ 1048576 ∧ Rows.uptoBulk d1 ≤ 1048576 ∧ Rows.uptoBulk d2 ≤ 1048576 := by
  have h : Rows.uptoBulkAll [d0, d1, d2] ≤ 1048576 := of_decide_eq_true hk
  simp only [Rows.uptoBulkAll] at h
  omega

theorem contract (H : Type) (enc : TypeId × Value → H) (W : World) (base : Nat) (args : Array Value) (ds gs : List (DataW H)) (before : List MemPlace)
    (hval : ∀ (j : Nat) t v, Try.f3.params[j]? = some t → args[j]? = some v → Value.okWide Try.prog W .any base t v)
    (hW : DataW.Whole enc Try.prog Try.f3.params.toList Rows.packPutsSpec.vars false W args.toList ds gs before) (hk : Rows.uptoSmall H (ds ++ gs) = true) :
    Calls Try.prog 3 args W fun e W' => ∃ v, e = .returned v ∧ Rows.packPutsSpec.post enc Try.prog Try.f3 false true false false W args v W' := by
  have hW' := hW
  obtain ⟨p, q, hA0, hV, rfl, hfz, hnd⟩ := hW
  have hA : DataW.TrodAll enc Try.prog W 0 (fun _ => true) true Try.f3.params.toList args.toList ds p := hA0
  rw [Try.params3] at hA hval
  obtain ⟨v0, vs0, d0, ds0, p0, q0, hargs, rfl, rfl, h0, r0⟩ := trodAll_cons hA
  obtain ⟨v1, vs1, d1, ds1, p1, q1, rfl, rfl, rfl, h1, r1⟩ := trodAll_cons r0
  obtain ⟨v2, vs2, d2, ds2, p2, q2, rfl, rfl, rfl, h2, r2⟩ := trodAll_cons r1
  obtain ⟨rfl, rfl, rfl⟩ := trodAll_nil r2
  obtain rfl : args = #[v0, v1, v2] := by cases args; simp_all
  obtain ⟨rfl, rfl⟩ := trodVars_none hV
  obtain ⟨a0, len0, cap0, rfl⟩ := okWide_slice Try.underlying22 (hval 0 22 v0 rfl rfl)
  obtain ⟨a1, len1, cap1, rfl⟩ := okWide_slice Try.underlying23 (hval 1 23 v1 rfl rfl)
  obtain ⟨a2, len2, cap2, rfl⟩ := okWide_slice Try.underlying22 (hval 2 22 v2 rfl rfl)
  have k0 := h0
  have k1 := h1
  have k2 := h2
  have lt0 : ∀ x ∈ p0, x.block < W.heap.size := by obtain ⟨m, hm⟩ := k0; exact DataW.trod_lt m _ _ _ hm
  have lt1 : ∀ x ∈ p1, x.block < W.heap.size := by obtain ⟨m, hm⟩ := k1; exact DataW.trod_lt m _ _ _ hm
  have lt2 : ∀ x ∈ p2, x.block < W.heap.size := by obtain ⟨m, hm⟩ := k2; exact DataW.trod_lt m _ _ _ hm
  obtain ⟨f0, hf0⟩ := h0
  obtain ⟨f1, hf1⟩ := h1
  obtain ⟨f2, hf2⟩ := h2
  obtain ⟨l0, e0, R0, wf0, D0⟩ := arg_row Try.underlying22 Try.underlying5 (by kernel_rfl) hf0
  obtain ⟨l1, e1, R1, wf1, D1⟩ := arg_row Try.underlying23 Try.underlying2 (by kernel_rfl) hf1
  obtain ⟨l2, e2, R2, wf2, D2⟩ := arg_row Try.underlying22 Try.underlying5 (by kernel_rfl) hf2
  simp only [List.append_nil] at hk
  obtain ⟨s0, s1, s2⟩ := short hk
  have b0 := D0.bulk
  have b1 := D1.bulk
  have b2 := D2.bulk
  clear hA0
  refine (walk W R0 R1 R2 (wf_u8 wf0) (wf_i64 wf1) (wf_u8 wf2) (by omega) (by omega) (by omega)).mono fun e W' ⟨he, bel⟩ => ?_
  subst he
  exact ⟨_, rfl, _, _, _, [], _, [], hW', trodAll_mk1 (shut_bool Try.underlying4 _), (trodAll_cons_mk (Below.trod Try.laidOut (by kernel_rfl) (of_decide_eq_true (by kernel_rfl)) k0 bel lt0) (trodAll_cons_mk (Below.trod Try.laidOut (by kernel_rfl) (of_decide_eq_true (by kernel_rfl)) k1 bel lt1) (trodAll_cons_mk (Below.trod Try.laidOut (by kernel_rfl) (of_decide_eq_true (by kernel_rfl)) k2 bel lt2) trodAll_mk0))), rfl, bel.frame _, fun h => by cases h⟩

set_option maxRecDepth 100000 in
theorem lifted (os : Os) (started : os.Started) (H : Type) (enc : TypeId × Value → H) (F : Stop.Interp) :
    ReturnsInHanded {} Try.checked os 3 .any ((Rows.OpenSpec.upto Rows.packPutsSpec).pre6 enc Try.prog Try.f3 Rows.packPutsUptoRow.domain false) (((Rows.OpenSpec.upto Rows.packPutsSpec).at F).post enc Try.prog Try.f3 false true false false) := by
  refine returnsInHanded_of_cond (C := Try.checked) (s := Rows.OpenSpec.upto Rows.packPutsSpec) (k := Rows.uptoSmall) rfl Try.ownK started (by kernel_rfl) Try.func3
    (OpenSpec.witness (enc := enc) (C := Try.checked) (s := Rows.OpenSpec.upto Rows.packPutsSpec) (k := Rows.uptoSmall) rfl false ⟨#[], #[.slice none 0 0, .slice none 0 0, .slice none 0 0], []⟩ 8 (by kernel_rfl) (by kernel_rfl) (by kernel_rfl)
      (x := ([.nil, .nil, .nil], [], [])) (by kernel_rfl) rfl (by kernel_rfl)) ?_
  intro W base args ds gs before hval hW _ hk _
  exact contract H enc W base args ds gs before hval hW hk

theorem proved : Rows.PackPutsUptoSaid :=
  OpenClaim.holds_of_cond 3 Try.f3 rfl rfl rfl rfl rfl rfl rfl ⟨rfl, rfl, rfl, rfl, rfl⟩ rfl rfl rfl rfl rfl (by kernel_rfl) Try.func3 (by kernel_rfl)
    (of_decide_eq_true (by kernel_rfl)) (by unfold Func.isWrapper; first | (rw [if_pos (by decide +kernel)]; kernel_rfl) | (rw [if_neg (by decide +kernel)]; exact ⟨rfl, rfl⟩))
    (fun os started H enc _ F => lifted os started H enc F)

end Go.Proofs.Ytpnoijmdhlkjlaa.packPuts
