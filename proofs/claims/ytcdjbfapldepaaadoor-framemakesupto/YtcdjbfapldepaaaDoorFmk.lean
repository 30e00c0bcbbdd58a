/-
  PROVED: the statement FrameMakes in its second form, its card: where the arguments hold together at most 1048576 values, the law returns true: sums, and the frames of any loads behind any bytes. The two tables of package frame hold what its text lays.
-/
import Derived.Test.YtcdjbfapldepaaaDoorMak
import Derived.Test.YtcdjbfapldepaaaDoorLai
namespace Go.Proofs.YtcdjbfapldepaaaDoor.frameMakes
open Go.ChangeShapes Go.WideShapes Go.ChangeAt Go.RowKit

theorem putB_u8 {b : List Int} {xs : List (List Int)} (hb : U8 b) (hx : ∀ x ∈ xs, U8 x) : U8 (putB b xs) := by
  unfold putB
  split
  · exact hb.append (framesL_u8 hx)
  · intro x hx; cases hx

set_option maxHeartbeats 4000000 in
theorem walk {vb vx vl : Value} {b x : List Int} {xs : List (List Int)} (w : World) (hb : Row .u8 w vb b) (hx : Row .u8 w vx x) (hl : Rows2 w vl xs) (ub : U8 b) (ux : U8 x) (ul : ∀ x ∈ xs, U8 x) (ht : Tabs w) (sb : b.length ≤ 1048576) (sx : x.length ≤ 1048576) (sl : flen xs ≤ 13631488) :
    Calls Tryd.prog 3 #[vb, vx, vl] w fun e w' => e = .returned (.bool true) ∧ Below w.heap.size w w' := by
  have HB : Hid (Row .u8 w vb b) := hb
  have HX : Hid (Row .u8 w vx x) := hx
  have HL : Hid (Rows2 w vl xs) := hl
  have HUB : Hid (U8 b) := ub
  have HUX : Hid (U8 x) := ux
  have HUL : Hid (∀ x ∈ xs, U8 x) := ul
  have HT : Hid (Tabs w) := ht
  clear hb hx hl ub ux ul ht
  go_enter Tryd.func3, Tryd.ntmps3
  go_wp2_with fail
  refine (sclone_any HB.out (by omega)).mono ?_
  rintro e w1 ⟨v1, rfl, hown1, hb1⟩
  have B1 : Below w.heap.size w w1 := hb1
  have R1 : Hid (Row .u8 w1 v1 b) := own_row hown1
  clear hown1 hb1
  go_wp2_with fail
  refine (make_any (HX.out.below B1) HUX.out (HT.out.below B1) (by omega)).mono ?_
  rintro e w2 ⟨v2, rfl, hown2, hb2⟩
  have B2 : Below w.heap.size w w2 := B1.trans (hb2.mono B1.size)
  have R12 : Hid (Row .u8 w2 v1 b) := R1.out.below hb2
  have R2 : Hid (Row .u8 w2 v2 (putB [] [x])) := own_row hown2
  clear hown2 hb2 B1 R1
  go_wp2_with fail
  refine (rmake_any (HX.out.below B2) HUX.out).mono ?_
  rintro e w3 ⟨v3, rfl, hown3, hb3⟩
  have B3 : Below w.heap.size w w3 := B2.trans (hb3.mono B2.size)
  have R13 : Hid (Row .u8 w3 v1 b) := R12.out.below hb3
  have R23 : Hid (Row .u8 w3 v2 (putB [] [x])) := R2.out.below hb3
  have R3 : Hid (Row .u8 w3 v3 (putB [] [x])) := own_row hown3
  clear hown3 hb3 B2 R12 R2
  go_wp2_with fail
  refine (put_any (HB.out.below B3) (HL.out.below B3) HUL.out (HT.out.below B3) (by omega)).mono ?_
  rintro e w4 ⟨v4, rfl, hown4, hb4⟩
  have B4 : Below w.heap.size w w4 := B3.trans (hb4.mono B3.size)
  have R14 : Hid (Row .u8 w4 v1 b) := R13.out.below hb4
  have R24 : Hid (Row .u8 w4 v2 (putB [] [x])) := R23.out.below hb4
  have R34 : Hid (Row .u8 w4 v3 (putB [] [x])) := R3.out.below hb4
  have R4 : Hid (Row .u8 w4 v4 (putB b xs)) := own_row hown4
  clear hown4 hb4 B3 R13 R23 R3
  go_wp2_with fail
  refine (rput_any R14.out (HL.out.below B4) HUL.out (by omega)).mono ?_
  rintro e w5 ⟨v5, rfl, hown5, hb5⟩
  have B5 : Below w.heap.size w w5 := B4.trans (hb5.mono B4.size)
  have R15 : Hid (Row .u8 w5 v1 b) := R14.out.below hb5
  have R25 : Hid (Row .u8 w5 v2 (putB [] [x])) := R24.out.below hb5
  have R35 : Hid (Row .u8 w5 v3 (putB [] [x])) := R34.out.below hb5
  have R45 : Hid (Row .u8 w5 v4 (putB b xs)) := R4.out.below hb5
  have R5 : Hid (Row .u8 w5 v5 (putB b xs)) := own_row hown5
  clear hown5 hb5 B4 R14 R24 R34 R4
  generalize putE [x] = E1
  generalize putE xs = E2
  go_wp2_with fail
  refine (begun_any w5 (HT.out.below B5)).mono ?_
  rintro e w6 ⟨rfl, hb6⟩
  have B6 : Below w.heap.size w w6 := B5.trans (hb6.mono B5.size)
  have R16 : Hid (Row .u8 w6 v1 b) := R15.out.below hb6
  have R26 : Hid (Row .u8 w6 v2 (putB [] [x])) := R25.out.below hb6
  have R36 : Hid (Row .u8 w6 v3 (putB [] [x])) := R35.out.below hb6
  have R46 : Hid (Row .u8 w6 v4 (putB b xs)) := R45.out.below hb6
  have R56 : Hid (Row .u8 w6 v5 (putB b xs)) := R5.out.below hb6
  clear hb6 B5 R15 R25 R35 R45 R5
  go_wp2_with fail
  refine (sum_any (HX.out.below B6) HUX.out (HT.out.below B6)).mono ?_
  rintro e w7 ⟨rfl, hb7⟩
  have B7 : Below w.heap.size w w7 := B6.trans (hb7.mono B6.size)
  have R17 : Hid (Row .u8 w7 v1 b) := R16.out.below hb7
  have R27 : Hid (Row .u8 w7 v2 (putB [] [x])) := R26.out.below hb7
  have R37 : Hid (Row .u8 w7 v3 (putB [] [x])) := R36.out.below hb7
  have R47 : Hid (Row .u8 w7 v4 (putB b xs)) := R46.out.below hb7
  have R57 : Hid (Row .u8 w7 v5 (putB b xs)) := R56.out.below hb7
  clear hb7 B6 R16 R26 R36 R46 R56
  go_wp2_with fail
  refine (rsum_any (HX.out.below B7) HUX.out).mono ?_
  rintro e w8 ⟨rfl, hb8⟩
  have B8 : Below w.heap.size w w8 := B7.trans (hb8.mono B7.size)
  have R18 : Hid (Row .u8 w8 v1 b) := R17.out.below hb8
  have R28 : Hid (Row .u8 w8 v2 (putB [] [x])) := R27.out.below hb8
  have R38 : Hid (Row .u8 w8 v3 (putB [] [x])) := R37.out.below hb8
  have R48 : Hid (Row .u8 w8 v4 (putB b xs)) := R47.out.below hb8
  have R58 : Hid (Row .u8 w8 v5 (putB b xs)) := R57.out.below hb8
  clear hb8 B7 R17 R27 R37 R47 R57
  generalize crc x = S
  have uP : Hid (U8 (putB [] [x])) := putB_u8 (by intro y hy; cases hy) (fun y hy => by simp at hy; rw [hy]; exact HUX.out)
  have uQ : Hid (U8 (putB b xs)) := putB_u8 HUB.out HUL.out
  go_wp2_with fail
  refine (equal_any R28.out R38.out uP.out uP.out).mono ?_
  rintro e w9 ⟨rfl, hw9⟩
  obtain rfl : w8 = w9 := hw9.symm
  rw [decide_eq_true rfl]
  go_wp2_with fail
  refine (equal_any R48.out R58.out uQ.out uQ.out).mono ?_
  rintro e w9 ⟨rfl, hw9⟩
  obtain rfl : w8 = w9 := hw9.symm
  rw [decide_eq_true rfl]
  go_wp2_with fail
  refine (equal_any (HB.out.below B8) R18.out HUB.out HUB.out).mono ?_
  rintro e w9 ⟨rfl, hw9⟩
  obtain rfl : w8 = w9 := hw9.symm
  rw [decide_eq_true rfl]
  go_wp2
  go_ret
  exact ⟨rfl, B8⟩

theorem short {H : Type} {d0 d1 d2 : DataW H} (hk : Rows.uptoSmall H [d0, d1, d2] = true) : Rows.uptoBulk d0 ≤ 1048576 ∧ Rows.uptoBulk d1 ≤ 1048576 ∧ Rows.uptoBulk d2 ≤ 1048576 := by
  have h : Rows.uptoBulkAll [d0, d1, d2] ≤ 1048576 := of_decide_eq_true hk
  simp only [Rows.uptoBulkAll] at h
  omega

theorem contract (H : Type) (enc : TypeId × Value → H) (W : World) (base : Nat) (args : Array Value) (ds gs : List (DataW H)) (before : List MemPlace)
    (hval : ∀ (j : Nat) t v, Tryd.f3.params[j]? = some t → args[j]? = some v → Value.okWide Tryd.prog W .any base t v)
    (hW : DataW.Whole enc Tryd.prog Tryd.f3.params.toList Rows.frameMakesSpec.vars false W args.toList ds gs before) (hk : Rows.uptoSmall H (ds ++ gs) = true) (hL : laidMetH Tryd.prog Rows.frameMakesUptoRow.laid W) :
    Calls Tryd.prog 3 args W fun e W' => ∃ v, e = .returned v ∧ Rows.frameMakesSpec.post enc Tryd.prog Tryd.f3 false true false false W args v W' := by
  have hW' := hW
  obtain ⟨p, q, hA0, hV, rfl, hfz, hnd⟩ := hW
  have hA : DataW.TrodAll enc Tryd.prog W 0 (fun _ => true) true Tryd.f3.params.toList args.toList ds p := hA0
  rw [Tryd.params3] at hA hval
  obtain ⟨v0, vs0, d0, ds0, p0, q0, hargs, rfl, rfl, h0, r0⟩ := trodAll_cons hA
  obtain ⟨v1, vs1, d1, ds1, p1, q1, rfl, rfl, rfl, h1, r1⟩ := trodAll_cons r0
  obtain ⟨v2, vs2, d2, ds2, p2, q2, rfl, rfl, rfl, h2, r2⟩ := trodAll_cons r1
  obtain ⟨rfl, rfl, rfl⟩ := trodAll_nil r2
  obtain rfl : args = #[v0, v1, v2] := by cases args; simp_all
  obtain ⟨rfl, rfl⟩ := trodVars_none hV
  obtain ⟨a0, len0, cap0, rfl⟩ := okWide_slice Tryd.underlying22 (hval 0 22 v0 rfl rfl)
  obtain ⟨a1, len1, cap1, rfl⟩ := okWide_slice Tryd.underlying22 (hval 1 22 v1 rfl rfl)
  obtain ⟨a2, len2, cap2, rfl⟩ := okWide_slice Tryd.underlying23 (hval 2 23 v2 rfl rfl)
  have k0 := h0
  have lt0 : ∀ x ∈ p0, x.block < W.heap.size := by obtain ⟨m, hm⟩ := k0; exact DataW.trod_lt m _ _ _ hm
  obtain ⟨f0, hf0⟩ := h0
  obtain ⟨l0, e0, R0, wf0, D0⟩ := arg_row Tryd.underlying22 Tryd.underlying5 (by kernel_rfl) hf0
  have U0 := wf_u8 wf0
  have b0 := D0.bulk
  have k1 := h1
  have lt1 : ∀ x ∈ p1, x.block < W.heap.size := by obtain ⟨m, hm⟩ := k1; exact DataW.trod_lt m _ _ _ hm
  obtain ⟨f1, hf1⟩ := h1
  obtain ⟨l1, e1, R1, wf1, D1⟩ := arg_row Tryd.underlying22 Tryd.underlying5 (by kernel_rfl) hf1
  have U1 := wf_u8 wf1
  have b1 := D1.bulk
  have k2 := h2
  have lt2 : ∀ x ∈ p2, x.block < W.heap.size := by obtain ⟨m, hm⟩ := k2; exact DataW.trod_lt m _ _ _ hm
  obtain ⟨f2, hf2⟩ := h2
  obtain ⟨l2, R2, U2, b2⟩ := arg_rows2 hf2
  simp only [List.append_nil] at hk
  obtain ⟨s0, s1, s2⟩ := short hk
  clear hA0
  refine (walk W R0 R1 R2 U0 U1 U2 (tables hL) (by omega) (by omega) (by omega)).mono fun e W' ⟨he, bel⟩ => ?_
  subst he
  exact ⟨_, rfl, _, _, _, [], _, [], hW', trodAll_mk1 (shut_bool Tryd.underlying4 _), (trodAll_cons_mk (Below.trod Tryd.laidOut (by kernel_rfl) (of_decide_eq_true (by kernel_rfl)) k0 bel lt0) (trodAll_cons_mk (Below.trod Tryd.laidOut (by kernel_rfl) (of_decide_eq_true (by kernel_rfl)) k1 bel lt1) (trodAll_cons_mk (Below.trod Tryd.laidOut (by kernel_rfl) (of_decide_eq_true (by kernel_rfl)) k2 bel lt2) trodAll_mk0))), rfl, bel.frame _, fun h => by cases h⟩

theorem laid_met (os : Os) : laidMet Tryd.prog Rows.frameMakesUptoRow.laid ((laidWorld os).forCall (fun _ _ => 0) ⟨#[], #[.slice none 0 0, .slice none 0 0, .slice none 0 0], []⟩).memory :=
  laidMet_of_run' 8 (by kernel_rfl) (by kernel_rfl)
theorem reads (os : Os) {H : Type} (enc : TypeId × Value → H) : ∃ places, DataW.whole enc Tryd.prog ((laidWorld os).forCall (fun _ _ => 0) ⟨#[], #[.slice none 0 0, .slice none 0 0, .slice none 0 0], []⟩).memory Tryd.f3.params.toList Rows.frameMakesSpec.vars false ((#[.slice none 0 0, .slice none 0 0, .slice none 0 0] : Array Value)).toList 8 = some ([.nil, .nil, .nil], [], places) :=
  ⟨[], by kernel_rfl⟩

set_option maxRecDepth 100000 in
theorem lifted (os : Os) (started : os.Started) (H : Type) (enc : TypeId × Value → H) (F : Stop.Interp) :
    ReturnsInHanded {} Tryd.checked os 3 .any ((Rows.OpenSpec.upto Rows.frameMakesSpec).preRow enc Tryd.prog Tryd.f3 Rows.frameMakesUptoRow.domain false Rows.frameMakesUptoRow.laid) (((Rows.OpenSpec.upto Rows.frameMakesSpec).at F).post enc Tryd.prog Tryd.f3 false true false false) := by
  obtain ⟨places, hx⟩ := reads os enc
  refine returnsInHanded_of_row (C := Tryd.checked) (s := Rows.OpenSpec.upto Rows.frameMakesSpec) Tryd.ownK started (by kernel_rfl) Tryd.func3
    (witness_row_at (enc := enc) (C := Tryd.checked) false (laidWorld os) #[.slice none 0 0, .slice none 0 0, .slice none 0 0] rfl (by kernel_rfl) (by kernel_rfl) (by kernel_rfl)
      (OpenSpec.preRow_of_cond 8 hx (by kernel_rfl) (fun k hk => by cases hk; kernel_rfl) (by kernel_rfl) (laid_met os))) ?_
  intro W base args ds gs before hval hW _ hcond _ hL _ _
  exact contract H enc W base args ds gs before hval hW (hcond _ rfl) hL

theorem said : Rows.FrameMakesUptoSaid :=
  OpenClaim.holds_of_cond 3 Tryd.f3 rfl rfl rfl rfl rfl rfl rfl ⟨rfl, rfl, rfl, rfl, rfl⟩ rfl rfl rfl rfl rfl (by kernel_rfl) Tryd.func3 (by kernel_rfl)
    (of_decide_eq_true (by kernel_rfl)) (by unfold Func.isWrapper; first | (rw [if_pos (by decide +kernel)]; kernel_rfl) | (rw [if_neg (by decide +kernel)]; exact ⟨rfl, rfl⟩))
    (fun os started H enc _ F => by rw [OpenClaim.pre_eq_preRow]; exact lifted os started H enc F)

theorem plain (f : FuncId) (fn : Func) (hf : Tryd.pinned.checked.prog.funcNamed "pontoon/pontoonlaw02.FrameMakes" = some f) (hfn : Tryd.pinned.checked.prog.funcs[f]? = some fn) :
    false = Tryd.pinned.checked.prog.looks [] ∧ ∀ (j : Nat) t, fn.params[j]? = some t → Tryd.pinned.checked.prog.wantsStandIn t = false := by
  obtain rfl : f = 3 := Option.some.inj ((show Tryd.prog.funcNamed "pontoon/pontoonlaw02.FrameMakes" = some 3 by kernel_rfl).symm.trans hf) |>.symm
  obtain rfl : fn = Tryd.f3 := (Option.some.inj (Tryd.func3.symm.trans hfn)).symm
  refine ⟨by kernel_rfl, fun j t ht => ?_⟩
  rw [Tryd.params3] at ht
  have hm := Array.mem_of_getElem? ht
  have all : ∀ t ∈ Tryd.f3.params, Tryd.prog.wantsStandIn t = false := by rw [Tryd.params3]; simp only [List.mem_toArray, List.mem_cons, List.not_mem_nil, or_false, forall_eq_or_imp, forall_eq]; exact ⟨by kernel_rfl, by kernel_rfl, by kernel_rfl⟩
  rw [Tryd.params3] at all
  exact all t hm

theorem proved : Rows.FrameMakesUptoCardSaid :=
  Claim7.holds_tied_plain_at .later [] _ _ _ _ said (fun _ h => by cases h) (by kernel_rfl) (fun _ h => by cases h) frameMakesUpto_row_tie rfl ⟨rfl, rfl⟩ (by kernel_rfl) rfl plain (by kernel_rfl)

end Go.Proofs.YtcdjbfapldepaaaDoor.frameMakes
