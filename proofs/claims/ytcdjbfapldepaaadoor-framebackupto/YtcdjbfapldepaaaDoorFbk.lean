/-
  PROVED: the statement FrameBack in its second form, its card: where the arguments hold together at most 1048576 values, the law returns true: what was put is taken as it was, whatever stands behind. The two tables of package frame hold what its text lays.
-/
import Derived.Test.YtcdjbfapldepaaaDoorSam
import Derived.Test.YtcdjbfapldepaaaDoorLai
namespace Go.Proofs.YtcdjbfapldepaaaDoor.frameBack
open Go.ChangeShapes Go.WideShapes Go.ChangeAt Go.RowKit

theorem fits_Fits {xs : List (List Int)} (h : fits xs = true) (hu : ∀ x ∈ xs, U8 x) : Fits xs := by
  intro x hx
  unfold fits at h
  rw [List.all_eq_true] at h
  exact ⟨by simpa using h x hx, hu x hx⟩

set_option maxHeartbeats 4000000 in
theorem walk {vl vx : Value} {xs : List (List Int)} {x : List Int} (w : World) (hl : Rows2 w vl xs) (hx : Row .u8 w vx x) (ul : ∀ x ∈ xs, U8 x) (ux : U8 x) (ht : Tabs w) (sl : flen xs ≤ 13631488) (sx : x.length ≤ 1048576) :
    Calls Tryd.prog 5 #[vl, vx] w fun e w' => e = .returned (.bool true) ∧ Below w.heap.size w w' := by
  obtain ⟨i0, hi, hz0, hz1, hz2⟩ := info_parts Tryd.infoU8
  have HL : Hid (Rows2 w vl xs) := hl
  have HX : Hid (Row .u8 w vx x) := hx
  have HUL : Hid (∀ x ∈ xs, U8 x) := ul
  have HUX : Hid (U8 x) := ux
  have HT : Hid (Tabs w) := ht
  have hcount := loads_count xs
  obtain ⟨p, cap, rfl, g1, g2, _, g4⟩ := hl
  have HC : Hid (0 < xs.length → ∃ b o, p = some ⟨b, o, none⟩ ∧ ∀ i, i < xs.length → ∃ u, w.cell? ⟨b, o + i, none⟩ = some u ∧ Row .u8 w u (xs.getD i [])) := g4
  clear hx ul ux ht g4
  go_enter Tryd.func5, Tryd.ntmps5
  go_wp2_with fail
  refine (put_any (Row.nil _ _) HL.out HUL.out HT.out (by simp; omega)).mono ?_
  rintro e w1 ⟨v1, rfl, hown1, hb1⟩
  have B1 : Below w.heap.size w w1 := hb1
  by_cases hfit : fits xs = true
  · have hE : putE xs = 0 := by unfold putE; rw [hfit]; rfl
    have hPB : putB [] xs = framesL xs := by unfold putB; rw [hfit]; simp
    rw [hE]
    rw [hPB] at hown1
    have R1 : Hid (Row .u8 w1 v1 (framesL xs)) := own_row hown1
    have HF : Hid (Fits xs) := fits_Fits hfit HUL.out
    clear hown1 hb1 hE hPB hfit
    go_wp2_with fail
    refine (begun_any w1 (HT.out.below B1)).mono ?_
    rintro e w2 ⟨rfl, hb2⟩
    have B2 : Below w.heap.size w w2 := B1.trans (hb2.mono B1.size)
    have R2 : Hid (Row .u8 w2 v1 (framesL xs)) := R1.out.below hb2
    clear hb2 R1 B1
    have HE : Hid (loads (framesL xs) = xs ∧ errAt (framesL xs) = 0 ∧ flen xs = (framesL xs).length) := ⟨loads_all HF.out, errAt_all HF.out, rfl⟩
    have hfl : (framesL xs).length ≤ 13631488 := sl
    have HUF : Hid (U8 (framesL xs)) := framesL_u8 HUL.out
    obtain ⟨p1, c1, rfl, q1, q2, _, _⟩ := id R2.out
    go_wp2_with fail
    refine (scan_any R2.out HUF.out (HT.out.below B2) (by omega)).mono ?_
    rintro e w3 ⟨v3, rfl, hown3, hb3⟩
    obtain ⟨e1, e2, e3⟩ := HE.out
    rw [e1] at hown3
    rw [e1, e2, e3]
    have B3 : Below w.heap.size w w3 := B2.trans (hb3.mono B2.size)
    have R3 : Hid (Row .u8 w3 (.slice p1 (framesL xs).length c1) (framesL xs)) := R2.out.below hb3
    have L3 : Hid (Rows2 w3 v3 xs) := hown3.rows2
    have hne : (((framesL xs).length : Int) != ((framesL xs).length : Int)) = false := by simp
    clear hown3 hb3 e1 e2 e3 HE R2 B2
    go_wp2_with fail
    refine (same_any L3.out (HL.out.below B3) HUL.out HUL.out rfl).mono ?_
    rintro e w4 ⟨rfl, hb4⟩
    have B4 : Below w.heap.size w w4 := B3.trans (hb4.mono B3.size)
    have R4 : Hid (Row .u8 w4 (.slice p1 (framesL xs).length c1) (framesL xs)) := R3.out.below hb4
    clear hb4 R3 B3 L3
    by_cases hlen : xs.length = 0
    · have hl0 : ((xs.length : Int) == 0) = true := by simp [hlen]
      clear hlen
      go_wp2
      go_ret
      exact ⟨rfl, B4⟩
    · have hl0 : ((xs.length : Int) == 0) = false := by simp; intro h; apply hlen; rw [h]; rfl
      obtain ⟨bb, o, rfl, hc⟩ := HC.out (by omega)
      obtain ⟨u0, hcu, hru⟩ := hc 0 (by omega)
      rw [Nat.add_zero] at hcu
      obtain ⟨y, hy⟩ : ∃ y, y = xs.getD 0 [] := ⟨_, rfl⟩
      rw [← hy] at hru
      have HRU : Hid (Row .u8 w u0 y) := hru
      have HCU : Hid (w.cell? ⟨bb, o, none⟩ = some u0) := hcu
      have hyx : ∃ ys, xs = y :: ys := by
        cases xs with
        | nil => simp at hlen
        | cons a l => exact ⟨l, by rw [hy]; rfl⟩
      have HTK : Hid (takeL (framesL xs ++ x) = (y, 12 + y.length, 0)) := by
        obtain ⟨ys, hys⟩ := hyx
        have hfy := HF.out y (by rw [hys]; simp)
        show _ = _
        rw [hys, framesL_cons, List.append_assoc, takeL_frame hfy.1 hfy.2]
      have HUY : Hid (U8 y) := by rw [hy]; exact HUL.out _ (getD_mem (by omega))
      have hyl : y.length ≤ 262144 := by rw [hy]; exact (HF.out _ (getD_mem (by omega))).1
      clear hc hcu hru hy hyx HC
      go_wp2_with fail
      refine (sclone_any R4.out (by omega)).mono ?_
      rintro e w5 ⟨v5, rfl, hown5, hb5⟩
      have B5 : Below w.heap.size w w5 := B4.trans (hb5.mono B4.size)
      have O5 : Hid (w5.ownsRow w.heap.size 5 1 v5 (framesL xs).length ((framesL xs).map (Value.int .u8))) := own_base hown5 B4.size
      clear hown5 hb5 R4 B4
      go_wp2_with (at_builtin; refine append_row _ rfl _ _ 22 rfl w.heap.size 5 i0 .u8 1 Tryd.underlying22 hi hz0 hz1 hz2 _ _ _ rfl O5.out _ x rfl (HX.out.below B5) (by omega) (by omega) B5.size ?_)
      intro v6 w6 hown6 hg6
      have B6 : Below w.heap.size w w6 := B5.grown hg6 B5.size (fun g hg => (O5.out.lt g hg).1)
      have R6 : Hid (Row .u8 w6 v6 (framesL xs ++ x)) := own_row (base := w.heap.size) (n := (framesL xs).length + x.length) (e := 5) (by simpa using hown6)
      clear hown6 hg6 O5 B5
      go_wp2_with fail
      refine (take_at R6.out (HUF.out.append HUX.out) (HT.out.below B6) (by simp; omega) HTK.out).mono ?_
      rintro e w7 ⟨v7, rfl, hown7, hb7⟩
      have B7 : Below w.heap.size w w7 := B6.trans (hb7.mono B6.size)
      have R7 : Hid (Row .u8 w7 v7 y) := own_row hown7
      obtain ⟨p7, c7, rfl, _, _, _, _⟩ := id R7.out
      have hcy := cell_later B7 HCU.out
      have RU7 : Hid (Row .u8 w7 u0 y) := HRU.out.below B7
      clear hown7 hb7 R6 B6 HRU HCU HTK
      go_wp2_with fail
      refine (equal_any R7.out RU7.out HUY.out HUY.out).mono ?_
      rintro e w8 ⟨rfl, hw8⟩
      obtain rfl : w7 = w8 := hw8.symm
      rw [decide_eq_true rfl]
      go_wp2
      go_ret
      exact ⟨by simp, B7⟩
  · have hE : putE xs = 3 := by unfold putE; rw [show fits xs = false by simpa using hfit]; rfl
    rw [hE]
    clear hown1 hb1 hE hfit
    go_wp2_with fail
    refine (begun_any w1 (HT.out.below B1)).mono ?_
    rintro e w2 ⟨rfl, hb2⟩
    have B2 : Below w.heap.size w w2 := B1.trans (hb2.mono B1.size)
    clear hb2 B1
    go_wp2_with fail
    refine (begun_any w2 (HT.out.below B2)).mono ?_
    rintro e w3 ⟨rfl, hb3⟩
    have B3 : Below w.heap.size w w3 := B2.trans (hb3.mono B2.size)
    clear hb3 B2
    go_wp2
    go_ret
    exact ⟨rfl, B3⟩

theorem short {H : Type} {d0 d1 : DataW H} (hk : Rows.uptoSmall H [d0, d1] = true) : Rows.uptoBulk d0 ≤ 1048576 ∧ Rows.uptoBulk d1 ≤ 1048576 := by
  have h : Rows.uptoBulkAll [d0, d1] ≤ 1048576 := of_decide_eq_true hk
  simp only [Rows.uptoBulkAll] at h
  omega

theorem contract (H : Type) (enc : TypeId × Value → H) (W : World) (base : Nat) (args : Array Value) (ds gs : List (DataW H)) (before : List MemPlace)
    (hval : ∀ (j : Nat) t v, Tryd.f5.params[j]? = some t → args[j]? = some v → Value.okWide Tryd.prog W .any base t v)
    (hW : DataW.Whole enc Tryd.prog Tryd.f5.params.toList Rows.frameBackSpec.vars false W args.toList ds gs before) (hk : Rows.uptoSmall H (ds ++ gs) = true) (hL : laidMetH Tryd.prog Rows.frameBackUptoRow.laid W) :
    Calls Tryd.prog 5 args W fun e W' => ∃ v, e = .returned v ∧ Rows.frameBackSpec.post enc Tryd.prog Tryd.f5 false true false false W args v W' := by
  have hW' := hW
  obtain ⟨p, q, hA0, hV, rfl, hfz, hnd⟩ := hW
  have hA : DataW.TrodAll enc Tryd.prog W 0 (fun _ => true) true Tryd.f5.params.toList args.toList ds p := hA0
  rw [Tryd.params5] at hA hval
  obtain ⟨v0, vs0, d0, ds0, p0, q0, hargs, rfl, rfl, h0, r0⟩ := trodAll_cons hA
  obtain ⟨v1, vs1, d1, ds1, p1, q1, rfl, rfl, rfl, h1, r1⟩ := trodAll_cons r0
  obtain ⟨rfl, rfl, rfl⟩ := trodAll_nil r1
  obtain rfl : args = #[v0, v1] := by cases args; simp_all
  obtain ⟨rfl, rfl⟩ := trodVars_none hV
  obtain ⟨a0, len0, cap0, rfl⟩ := okWide_slice Tryd.underlying23 (hval 0 23 v0 rfl rfl)
  obtain ⟨a1, len1, cap1, rfl⟩ := okWide_slice Tryd.underlying22 (hval 1 22 v1 rfl rfl)
  have k0 := h0
  have lt0 : ∀ x ∈ p0, x.block < W.heap.size := by obtain ⟨m, hm⟩ := k0; exact DataW.trod_lt m _ _ _ hm
  obtain ⟨f0, hf0⟩ := h0
  obtain ⟨l0, R0, U0, b0⟩ := arg_rows2 hf0
  have k1 := h1
  have lt1 : ∀ x ∈ p1, x.block < W.heap.size := by obtain ⟨m, hm⟩ := k1; exact DataW.trod_lt m _ _ _ hm
  obtain ⟨f1, hf1⟩ := h1
  obtain ⟨l1, e1, R1, wf1, D1⟩ := arg_row Tryd.underlying22 Tryd.underlying5 (by kernel_rfl) hf1
  have U1 := wf_u8 wf1
  have b1 := D1.bulk
  simp only [List.append_nil] at hk
  obtain ⟨s0, s1⟩ := short hk
  clear hA0
  refine (walk W R0 R1 U0 U1 (tables hL) (by omega) (by omega)).mono fun e W' ⟨he, bel⟩ => ?_
  subst he
  exact ⟨_, rfl, _, _, _, [], _, [], hW', trodAll_mk1 (shut_bool Tryd.underlying4 _), (trodAll_cons_mk (Below.trod Tryd.laidOut (by kernel_rfl) (of_decide_eq_true (by kernel_rfl)) k0 bel lt0) (trodAll_cons_mk (Below.trod Tryd.laidOut (by kernel_rfl) (of_decide_eq_true (by kernel_rfl)) k1 bel lt1) trodAll_mk0)), rfl, bel.frame _, fun h => by cases h⟩

theorem laid_met (os : Os) : laidMet Tryd.prog Rows.frameBackUptoRow.laid ((laidWorld os).forCall (fun _ _ => 0) ⟨#[], #[.slice none 0 0, .slice none 0 0], []⟩).memory :=
  laidMet_of_run' 8 (by kernel_rfl) (by kernel_rfl)
theorem reads (os : Os) {H : Type} (enc : TypeId × Value → H) : ∃ places, DataW.whole enc Tryd.prog ((laidWorld os).forCall (fun _ _ => 0) ⟨#[], #[.slice none 0 0, .slice none 0 0], []⟩).memory Tryd.f5.params.toList Rows.frameBackSpec.vars false ((#[.slice none 0 0, .slice none 0 0] : Array Value)).toList 8 = some ([.nil, .nil], [], places) :=
  ⟨[], by kernel_rfl⟩

set_option maxRecDepth 100000 in
theorem lifted (os : Os) (started : os.Started) (H : Type) (enc : TypeId × Value → H) (F : Stop.Interp) :
    ReturnsInHanded {} Tryd.checked os 5 .any ((Rows.OpenSpec.upto Rows.frameBackSpec).preRow enc Tryd.prog Tryd.f5 Rows.frameBackUptoRow.domain false Rows.frameBackUptoRow.laid) (((Rows.OpenSpec.upto Rows.frameBackSpec).at F).post enc Tryd.prog Tryd.f5 false true false false) := by
  obtain ⟨places, hx⟩ := reads os enc
  refine returnsInHanded_of_row (C := Tryd.checked) (s := Rows.OpenSpec.upto Rows.frameBackSpec) Tryd.ownK started (by kernel_rfl) Tryd.func5
    (witness_row_at (enc := enc) (C := Tryd.checked) false (laidWorld os) #[.slice none 0 0, .slice none 0 0] rfl (by kernel_rfl) (by kernel_rfl) (by kernel_rfl)
      (OpenSpec.preRow_of_cond 8 hx (by kernel_rfl) (fun k hk => by cases hk; kernel_rfl) (by kernel_rfl) (laid_met os))) ?_
  intro W base args ds gs before hval hW _ hcond _ hL _ _
  exact contract H enc W base args ds gs before hval hW (hcond _ rfl) hL

theorem said : Rows.FrameBackUptoSaid :=
  OpenClaim.holds_of_cond 5 Tryd.f5 rfl rfl rfl rfl rfl rfl rfl ⟨rfl, rfl, rfl, rfl, rfl⟩ rfl rfl rfl rfl rfl (by kernel_rfl) Tryd.func5 (by kernel_rfl)
    (of_decide_eq_true (by kernel_rfl)) (by unfold Func.isWrapper; first | (rw [if_pos (by decide +kernel)]; kernel_rfl) | (rw [if_neg (by decide +kernel)]; exact ⟨rfl, rfl⟩))
    (fun os started H enc _ F => by rw [OpenClaim.pre_eq_preRow]; exact lifted os started H enc F)

theorem plain (f : FuncId) (fn : Func) (hf : Tryd.pinned.checked.prog.funcNamed "pontoon/pontoonlaw02.FrameBack" = some f) (hfn : Tryd.pinned.checked.prog.funcs[f]? = some fn) :
    false = Tryd.pinned.checked.prog.looks [] ∧ ∀ (j : Nat) t, fn.params[j]? = some t → Tryd.pinned.checked.prog.wantsStandIn t = false := by
  obtain rfl : f = 5 := Option.some.inj ((show Tryd.prog.funcNamed "pontoon/pontoonlaw02.FrameBack" = some 5 by kernel_rfl).symm.trans hf) |>.symm
  obtain rfl : fn = Tryd.f5 := (Option.some.inj (Tryd.func5.symm.trans hfn)).symm
  refine ⟨by kernel_rfl, fun j t ht => ?_⟩
  rw [Tryd.params5] at ht
  have hm := Array.mem_of_getElem? ht
  have all : ∀ t ∈ Tryd.f5.params, Tryd.prog.wantsStandIn t = false := by rw [Tryd.params5]; simp only [List.mem_toArray, List.mem_cons, List.not_mem_nil, or_false, forall_eq_or_imp, forall_eq]; exact ⟨by kernel_rfl, by kernel_rfl⟩
  rw [Tryd.params5] at all
  exact all t hm

theorem proved : Rows.FrameBackUptoCardSaid :=
  Claim7.holds_tied_plain_at .later [] _ _ _ _ said (fun _ h => by cases h) (by kernel_rfl) (fun _ h => by cases h) frameBackUpto_row_tie rfl ⟨rfl, rfl⟩ (by kernel_rfl) rfl plain (by kernel_rfl)

end Go.Proofs.YtcdjbfapldepaaaDoor.frameBack
