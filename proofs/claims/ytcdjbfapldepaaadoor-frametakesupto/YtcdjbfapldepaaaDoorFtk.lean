/-
  PROVED: the statement FrameTakes in its second form, its card: where the argument holds at most 1048576 values, the law returns true: the frame, and all frames, with which any bytes begin, or what keeps them from it. The two tables of package frame hold what its text lays.
-/
import Derived.Test.YtcdjbfapldepaaaDoorTld
import Derived.Test.YtcdjbfapldepaaaDoorLai
namespace Go.Proofs.YtcdjbfapldepaaaDoor.frameTakes
open Go.ChangeShapes Go.WideShapes Go.ChangeAt Go.RowKit

theorem takeL_u8 {b x : List Int} {n : Nat} {er : Int} (hu : U8 b) (h : takeL b = (x, n, er)) : U8 x := by
  rcases takeL_facts b with ⟨_, _, _, h4⟩ | ⟨_, h2, _⟩
  · rw [h] at h4
    exact fun y hy => hu y (h4 y hy)
  · rw [h] at h2
    have h2' : x = [] := h2
    rw [h2']
    exact fun y hy => by cases hy
theorem scan_u8 : ∀ (f : Nat) (l : List Int), U8 l → ∀ x ∈ scan f l, U8 x := by
  intro f
  induction f with
  | zero => intro l _ x hx; simp [scan] at hx
  | succ f ih =>
    intro l hu x hx
    simp only [scan] at hx
    split at hx
    · rcases List.mem_cons.1 hx with rfl | hx
      · exact takeL_u8 (n := (takeL l).2.1) (er := (takeL l).2.2) hu rfl
      · exact ih _ (hu.drop _) x hx
    · cases hx

set_option maxHeartbeats 4000000 in
theorem walk {v : Value} {b : List Int} (w : World) (hv : Row .u8 w v b) (ub : U8 b) (ht : Tabs w) (sb : b.length ≤ 1048576) :
    Calls Tryd.prog 4 #[v] w fun e w' => e = .returned (.bool true) ∧ Below w.heap.size w w' := by
  have HV : Hid (Row .u8 w v b) := hv
  have HU : Hid (U8 b) := ub
  have HT : Hid (Tabs w) := ht
  obtain ⟨x, n, er, hf⟩ : ∃ x n er, takeL b = (x, n, er) := ⟨_, _, _, rfl⟩
  have HF : Hid (takeL b = (x, n, er)) := hf
  have HUX : Hid (U8 x) := takeL_u8 ub hf
  have HUL : Hid (∀ y ∈ loads b, U8 y) := scan_u8 _ _ ub
  clear hv ub ht hf
  go_enter Tryd.func4, Tryd.ntmps4
  go_wp2_with fail
  refine (begun_any w HT.out).mono ?_
  rintro e w1 ⟨rfl, hb1⟩
  have B1 : Below w.heap.size w w1 := hb1
  clear hb1
  go_wp2_with fail
  refine (take_at (HV.out.below B1) HU.out (HT.out.below B1) (by omega) HF.out).mono ?_
  rintro e w2 ⟨v2, rfl, hown2, hb2⟩
  have B2 : Below w.heap.size w w2 := B1.trans (hb2.mono B1.size)
  have R2 : Hid (Row .u8 w2 v2 x) := own_row hown2
  clear hown2 hb2 B1
  go_wp2_with fail
  refine (rtake_at (HV.out.below B2) HU.out (by omega) HF.out).mono ?_
  rintro e w3 ⟨v3, rfl, hown3, hb3⟩
  have B3 : Below w.heap.size w w3 := B2.trans (hb3.mono B2.size)
  have R23 : Hid (Row .u8 w3 v2 x) := R2.out.below hb3
  have R3 : Hid (Row .u8 w3 v3 x) := own_row hown3
  clear hown3 hb3 B2 R2
  go_wp2_with fail
  refine (scan_any (HV.out.below B3) HU.out (HT.out.below B3) (by omega)).mono ?_
  rintro e w4 ⟨v4, rfl, hown4, hb4⟩
  have B4 : Below w.heap.size w w4 := B3.trans (hb4.mono B3.size)
  have R24 : Hid (Row .u8 w4 v2 x) := R23.out.below hb4
  have R34 : Hid (Row .u8 w4 v3 x) := R3.out.below hb4
  have L4 : Hid (Rows2 w4 v4 (loads b)) := hown4.rows2
  clear hown4 hb4 B3 R23 R3
  go_wp2_with fail
  refine (rscan_any (HV.out.below B4) HU.out (by omega)).mono ?_
  rintro e w5 ⟨v5, rfl, hown5, hb5⟩
  have B5 : Below w.heap.size w w5 := B4.trans (hb5.mono B4.size)
  have R25 : Hid (Row .u8 w5 v2 x) := R24.out.below hb5
  have R35 : Hid (Row .u8 w5 v3 x) := R34.out.below hb5
  have L45 : Hid (Rows2 w5 v4 (loads b)) := L4.out.below hb5
  have L5 : Hid (Rows2 w5 v5 (loads b)) := hown5.rows2
  clear hown5 hb5 B4 R24 R34 L4
  go_wp2_with fail
  refine (told_any (HV.out.below B5) HU.out (HT.out.below B5) (by omega)).mono ?_
  rintro e w6 ⟨v6, rfl, hown6, hb6⟩
  have B6 : Below w.heap.size w w6 := B5.trans (hb6.mono B5.size)
  have R26 : Hid (Row .u8 w6 v2 x) := R25.out.below hb6
  have R36 : Hid (Row .u8 w6 v3 x) := R35.out.below hb6
  have L46 : Hid (Rows2 w6 v4 (loads b)) := L45.out.below hb6
  have L56 : Hid (Rows2 w6 v5 (loads b)) := L5.out.below hb6
  have L6 : Hid (Rows2 w6 v6 (loads b)) := hown6.rows2
  clear hown6 hb6 B5 R25 R35 L45 L5
  generalize flen (loads b) = at'
  generalize errAt b = ea
  go_wp2_with fail
  refine (equal_any R26.out R36.out HUX.out HUX.out).mono ?_
  rintro e w9 ⟨rfl, hw9⟩
  obtain rfl : w6 = w9 := hw9.symm
  rw [decide_eq_true rfl]
  clear hw9
  go_wp2_with fail
  refine (same_any L46.out L56.out HUL.out HUL.out rfl).mono ?_
  rintro e w7 ⟨rfl, hb7⟩
  have B7 : Below w.heap.size w w7 := B6.trans (hb7.mono B6.size)
  have L57 : Hid (Rows2 w7 v5 (loads b)) := L56.out.below hb7
  have L67 : Hid (Rows2 w7 v6 (loads b)) := L6.out.below hb7
  clear hb7 B6 L46 L56 L6 R26 R36
  go_wp2_with fail
  refine (same_any L67.out L57.out HUL.out HUL.out rfl).mono ?_
  rintro e w8 ⟨rfl, hb8⟩
  have B8 : Below w.heap.size w w8 := B7.trans (hb8.mono B7.size)
  clear hb8 B7 L57 L67
  go_wp2
  go_ret
  exact ⟨by simp, B8⟩

theorem short {H : Type} {d0 : DataW H} (hk : Rows.uptoSmall H [d0] = true) : Rows.uptoBulk d0 ≤ 1048576 := by
  have h : Rows.uptoBulkAll [d0] ≤ 1048576 := of_decide_eq_true hk
  simp only [Rows.uptoBulkAll] at h
  omega

theorem contract (H : Type) (enc : TypeId × Value → H) (W : World) (base : Nat) (args : Array Value) (ds gs : List (DataW H)) (before : List MemPlace)
    (hval : ∀ (j : Nat) t v, Tryd.f4.params[j]? = some t → args[j]? = some v → Value.okWide Tryd.prog W .any base t v)
    (hW : DataW.Whole enc Tryd.prog Tryd.f4.params.toList Rows.frameTakesSpec.vars false W args.toList ds gs before) (hk : Rows.uptoSmall H (ds ++ gs) = true) (hL : laidMetH Tryd.prog Rows.frameTakesUptoRow.laid W) :
    Calls Tryd.prog 4 args W fun e W' => ∃ v, e = .returned v ∧ Rows.frameTakesSpec.post enc Tryd.prog Tryd.f4 false true false false W args v W' := by
  have hW' := hW
  obtain ⟨p, q, hA0, hV, rfl, hfz, hnd⟩ := hW
  have hA : DataW.TrodAll enc Tryd.prog W 0 (fun _ => true) true Tryd.f4.params.toList args.toList ds p := hA0
  rw [Tryd.params4] at hA hval
  obtain ⟨v0, vs0, d0, ds0, p0, q0, hargs, rfl, rfl, h0, r0⟩ := trodAll_cons hA
  obtain ⟨rfl, rfl, rfl⟩ := trodAll_nil r0
  obtain rfl : args = #[v0] := by cases args; simp_all
  obtain ⟨rfl, rfl⟩ := trodVars_none hV
  obtain ⟨a0, len0, cap0, rfl⟩ := okWide_slice Tryd.underlying22 (hval 0 22 v0 rfl rfl)
  have k0 := h0
  have lt0 : ∀ x ∈ p0, x.block < W.heap.size := by obtain ⟨m, hm⟩ := k0; exact DataW.trod_lt m _ _ _ hm
  obtain ⟨f0, hf0⟩ := h0
  obtain ⟨l0, e0, R0, wf0, D0⟩ := arg_row Tryd.underlying22 Tryd.underlying5 (by kernel_rfl) hf0
  have U0 := wf_u8 wf0
  have b0 := D0.bulk
  simp only [List.append_nil] at hk
  have s0 := short hk
  clear hA0
  refine (walk W R0 U0 (tables hL) (by omega)).mono fun e W' ⟨he, bel⟩ => ?_
  subst he
  exact ⟨_, rfl, _, _, _, [], _, [], hW', trodAll_mk1 (shut_bool Tryd.underlying4 _), (trodAll_cons_mk (Below.trod Tryd.laidOut (by kernel_rfl) (of_decide_eq_true (by kernel_rfl)) k0 bel lt0) trodAll_mk0), rfl, bel.frame _, fun h => by cases h⟩

theorem laid_met (os : Os) : laidMet Tryd.prog Rows.frameTakesUptoRow.laid ((laidWorld os).forCall (fun _ _ => 0) ⟨#[], #[.slice none 0 0], []⟩).memory :=
  laidMet_of_run' 8 (by kernel_rfl) (by kernel_rfl)
theorem reads (os : Os) {H : Type} (enc : TypeId × Value → H) : ∃ places, DataW.whole enc Tryd.prog ((laidWorld os).forCall (fun _ _ => 0) ⟨#[], #[.slice none 0 0], []⟩).memory Tryd.f4.params.toList Rows.frameTakesSpec.vars false ((#[.slice none 0 0] : Array Value)).toList 8 = some ([.nil], [], places) :=
  ⟨[], by kernel_rfl⟩

set_option maxRecDepth 100000 in
theorem lifted (os : Os) (started : os.Started) (H : Type) (enc : TypeId × Value → H) (F : Stop.Interp) :
    ReturnsInHanded {} Tryd.checked os 4 .any ((Rows.OpenSpec.upto Rows.frameTakesSpec).preRow enc Tryd.prog Tryd.f4 Rows.frameTakesUptoRow.domain false Rows.frameTakesUptoRow.laid) (((Rows.OpenSpec.upto Rows.frameTakesSpec).at F).post enc Tryd.prog Tryd.f4 false true false false) := by
  obtain ⟨places, hx⟩ := reads os enc
  refine returnsInHanded_of_row (C := Tryd.checked) (s := Rows.OpenSpec.upto Rows.frameTakesSpec) Tryd.ownK started (by kernel_rfl) Tryd.func4
    (witness_row_at (enc := enc) (C := Tryd.checked) false (laidWorld os) #[.slice none 0 0] rfl (by kernel_rfl) (by kernel_rfl) (by kernel_rfl)
      (OpenSpec.preRow_of_cond 8 hx (by kernel_rfl) (fun k hk => by cases hk; kernel_rfl) (by kernel_rfl) (laid_met os))) ?_
  intro W base args ds gs before hval hW _ hcond _ hL _ _
  exact contract H enc W base args ds gs before hval hW (hcond _ rfl) hL

theorem said : Rows.FrameTakesUptoSaid :=
  OpenClaim.holds_of_cond 4 Tryd.f4 rfl rfl rfl rfl rfl rfl rfl ⟨rfl, rfl, rfl, rfl, rfl⟩ rfl rfl rfl rfl rfl (by kernel_rfl) Tryd.func4 (by kernel_rfl)
    (of_decide_eq_true (by kernel_rfl)) (by unfold Func.isWrapper; first | (rw [if_pos (by decide +kernel)]; kernel_rfl) | (rw [if_neg (by decide +kernel)]; exact ⟨rfl, rfl⟩))
    (fun os started H enc _ F => by rw [OpenClaim.pre_eq_preRow]; exact lifted os started H enc F)

theorem plain (f : FuncId) (fn : Func) (hf : Tryd.pinned.checked.prog.funcNamed "pontoon/pontoonlaw02.FrameTakes" = some f) (hfn : Tryd.pinned.checked.prog.funcs[f]? = some fn) :
    false = Tryd.pinned.checked.prog.looks [] ∧ ∀ (j : Nat) t, fn.params[j]? = some t → Tryd.pinned.checked.prog.wantsStandIn t = false := by
  obtain rfl : f = 4 := Option.some.inj ((show Tryd.prog.funcNamed "pontoon/pontoonlaw02.FrameTakes" = some 4 by kernel_rfl).symm.trans hf) |>.symm
  obtain rfl : fn = Tryd.f4 := (Option.some.inj (Tryd.func4.symm.trans hfn)).symm
  refine ⟨by kernel_rfl, fun j t ht => ?_⟩
  rw [Tryd.params4] at ht
  have hm := Array.mem_of_getElem? ht
  have all : ∀ t ∈ Tryd.f4.params, Tryd.prog.wantsStandIn t = false := by rw [Tryd.params4]; simp only [List.mem_toArray, List.mem_cons, List.not_mem_nil, or_false, forall_eq]; exact (by kernel_rfl)
  rw [Tryd.params4] at all
  exact all t hm

theorem proved : Rows.FrameTakesUptoCardSaid :=
  Claim7.holds_tied_plain_at .later [] _ _ _ _ said (fun _ h => by cases h) (by kernel_rfl) (fun _ h => by cases h) frameTakesUpto_row_tie rfl ⟨rfl, rfl⟩ (by kernel_rfl) rfl plain (by kernel_rfl)

end Go.Proofs.YtcdjbfapldepaaaDoor.frameTakes
