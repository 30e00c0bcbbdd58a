/-
  EventLeaves: whoever goes through the records stops at any: for every input. No conditions.
-/
import Derived.Test.YtihbdlbnpkmafaaEtl
import Derived.Test.YtihbdlbnpkmafaaEve
import Derived.Test.YtihbdlbnpkmafaaEvg
import Derived.Deep.RegionHeld3
import Derived.BigRegion
import Derived.BigQuiet
import Derived.WalkMore
namespace Go.Proofs.Ytihbdlbnpkmafaa.eventLeaves
open Go.ChangeShapes Go.WideShapes Go.ChangeAt Go.RowKit

theorem rcs_len (es : List EV) : (rcsOf (knownL es)).length ≤ es.length := by
  unfold rcsOf knownL
  rw [List.length_map]
  exact Nat.le_trans (List.length_filter_le _ _) (List.length_filter_le _ _)
theorem told_rec {W : World} {eb kb L cap : Nat} {p : Option Addr} {es : List EV} (h : KRd eb kb L cap p es W) (hL : es.length = L) (hb : L * 32 ≤ 140737488351232) {M : Nat} (hM : (rcsOf (knownL es)).length = M) :
    Calls Try.prog 32 #[.func (.func 54) #[] #[.pointer (some ⟨eb, 0, none⟩)]] W fun e w' => ∃ p c, e = .returned (.slice p M c) ∧ w'.ownsRow W.heap.size 24 2 (.slice p M c) M ((rcsOf (knownL es)).flatMap RC.cells) ∧ Below W.heap.size W w' :=
  callsIn_wide.1 (told_in 5 (Nat.le_refl _) (Rd := KRd eb kb L cap p es) (fun q hq => by rw [← tellR_rc]; exact records_tells q hq hL) enRecords (fun X hX => h.later hX) (by have := rcs_len es; omega) hM)
theorem few_rec {W : World} {eb kb L cap : Nat} {p : Option Addr} {es : List EV} (h : KRd eb kb L cap p es W) (hL : es.length = L) (hb : L * 32 ≤ 140737488351232) {m M : Nat} (hM : ((rcsOf (knownL es)).take m).length = M) :
    Calls Try.prog 41 #[.func (.func 54) #[] #[.pointer (some ⟨eb, 0, none⟩)], .int .i64 (m : Int)] W fun e w' => ∃ p c, e = .returned (.slice p M c) ∧ w'.ownsRow W.heap.size 24 2 (.slice p M c) M (((rcsOf (knownL es)).take m).flatMap RC.cells) ∧ Below W.heap.size W w' :=
  callsIn_wide.1 (few_in 5 (Nat.le_refl _) (Rd := KRd eb kb L cap p es) (fun q hq => by rw [← tellR_rc]; exact records_tells q hq hL) enRecords (fun X hX => h.later hX) (by have := rcs_len es; omega) hM)

theorem row_take {W : World} {p : Option Addr} {c : Nat} {rs : List RC} (h : RRow W p c rs) (m : Nat) : RRow W p c (rs.take m) := by
  refine ⟨Nat.le_trans (by rw [List.length_take]; omega) h.le, h.top, h.nil, fun i hi => ?_⟩
  have hi' : i < rs.length := by rw [List.length_take] at hi; omega
  rw [getElem!_pos (rs.take m) i hi, List.getElem_take, ← getElem!_pos rs i hi']
  exact h.cell i hi'
set_option maxRecDepth 100000 in
set_option maxHeartbeats 8000000 in
theorem walk {W : World} {p : Option Addr} {c : Nat} {es : List EV} {m : Int} (hR : ERow W p c es) (_hf : ∀ e ∈ es, e.fine) (hb : es.length * 32 ≤ 140737488351232) (hm0 : 0 ≤ m) (hm1 : m ≤ 255) :
    Calls Try.prog 6 #[.slice p es.length c, .int .u8 m] W fun e w' => e = .returned (.bool true) ∧ Below W.heap.size W w' := by
  obtain ⟨m, rfl⟩ := Int.eq_ofNat_of_zero_le hm0
  obtain ⟨L, hL⟩ : ∃ L, es.length = L := ⟨_, rfl⟩
  obtain ⟨rs, hrs⟩ : ∃ rs, rcsOf (knownL es) = rs := ⟨_, rfl⟩
  obtain ⟨M, hM⟩ : ∃ M, rs.length = M := ⟨_, rfl⟩
  obtain ⟨N, hN⟩ : ∃ N, (rs.take m).length = N := ⟨_, rfl⟩
  have hM' : (rcsOf (knownL es)).length = M := by rw [hrs]; exact hM
  have hN' : ((rcsOf (knownL es)).take m).length = N := by rw [hrs]; exact hN
  have HML : Hid (M ≤ L) := hide (by have := rcs_len es; omega)
  have HNN : Hid (N = min m M) := hide (by rw [← hN, List.length_take, hM])
  have HR := hide hR
  have HL := hide hL
  have HM := hide hM'
  have HN := hide hN'
  have HRS := hide hrs
  have HNR := hide hN
  rw [hL] at hb ⊢
  have HBB := hide hb
  have HC := hide (fun (w : World) (hw : Below W.heap.size W w) => records_any (ERow.later hR hw) hL (by omega))
  clear hR hL hM hN hM' hN' hrs
  go_enter Try.func6, Try.ntmps6
  go_wp2_with fail
  refine begun_any.mono ?_
  rintro _ w1 ⟨rfl, b1⟩
  have HB1 := hide b1
  clear b1
  go_wp2_with fail
  refine (HC.out _ HB1.out).mono ?_
  rintro _ w2 ⟨eb, kb, p2, c2, rfl, k2, b2⟩
  have HB2 := hide (HB1.out.trans (b2.mono HB1.out.size))
  have HT2 := hide (told_rec k2 HL.out HBB.out HM.out)
  clear k2 b2 HB1
  go_wp2_with fail
  refine HT2.out.mono ?_
  rintro _ w3 ⟨p3, c3, rfl, o3, b3⟩
  have HB3 := hide (HB2.out.trans (b3.mono HB2.out.size))
  have HR3 := hide (LRow.of_own RC.len HM.out o3)
  clear o3 b3 HB2 HT2
  go_wp2_with fail
  refine (HC.out _ HB3.out).mono ?_
  rintro _ w4 ⟨eb4, kb4, p4, c4, rfl, k4, b4⟩
  have HB4 := hide (HB3.out.trans (b4.mono HB3.out.size))
  have HR4 := hide (RRow.later HR3.out b4)
  have HT4 := hide (few_rec (m := m) k4 HL.out HBB.out HN.out)
  clear k4 b4 HB3 HR3 HC
  go_wp2_with fail
  refine HT4.out.mono ?_
  rintro _ w5 ⟨p5, c5, rfl, o5, b5⟩
  have HB5 := hide (HB4.out.trans (b5.mono HB4.out.size))
  have HR5 := hide (LRow.of_own RC.len HN.out o5)
  have HR6 := hide (RRow.later HR4.out b5)
  have i3 : M ≤ c3 := by have := HR6.out.le; rw [HM.out] at this; exact this
  clear o5 b5 HB4 HR4 HT4
  go_wp2_with fail
  have hmn : min (M : Int) (m : Int) = (N : Int) := by have := HNN.out; omega
  try rw [hmn]
  try rw [Int.toNat_natCast]
  refine (eqrc_any HR5.out (row_take HR6.out m) HN.out).mono ?_
  rintro _ w6 ⟨rfl, b6⟩
  have HB6 := hide (HB5.out.trans (b6.mono HB5.out.size))
  clear b6
  go_wp2
  go_ret
  exact ⟨rfl, HB6.out⟩
set_option maxRecDepth 100000 in
theorem contract (H : Type) (enc : TypeId × Value → H) (W : World) (base : Nat) (args : Array Value) (ds gs : List (DataW H)) (before : List MemPlace)
    (hval : ∀ (j : Nat) t v, Try.f6.params[j]? = some t → args[j]? = some v → Value.okWide Try.prog W .any base t v)
    (hW : DataW.Whole enc Try.prog Try.f6.params.toList Rows.eventLeavesSpec.vars false W args.toList ds gs before) (hsz0 : (DataW.weightsEach Try.prog (Try.f6.params.toList ++ Rows.eventLeavesSpec.plain.varTypes Try.prog) (ds ++ gs)).all (· ≤ reachBytes) = true) :
    Calls Try.prog 6 args W fun e W' => ∃ v, e = .returned v ∧ Rows.eventLeavesSpec.post enc Try.prog Try.f6 false true false false W args v W' := by
  have hW' := hW
  obtain ⟨p, q, hA0, hV, rfl, hfz, hnd⟩ := hW
  have hA : DataW.TrodAll enc Try.prog W 0 (fun _ => true) true Try.f6.params.toList args.toList ds p := hA0
  rw [Try.params6] at hA hval hsz0
  obtain ⟨v0, vs0, d0, ds0, p0, q0, hargs, rfl, rfl, h0, r0⟩ := trodAll_cons hA
  obtain ⟨v1, vs1, d1, ds1, p1, q1, rfl, rfl, rfl, h1, r1⟩ := trodAll_cons r0
  obtain ⟨rfl, rfl, rfl⟩ := trodAll_nil r1
  obtain rfl : args = #[v0, v1] := by cases args; simp_all
  obtain ⟨rfl, rfl⟩ := trodVars_none hV
  obtain ⟨a0, len0, cap0, rfl⟩ := okWide_slice Try.underlying27 (hval 0 27 v0 rfl rfl)
  have k0 := h0
  have lt0 : ∀ x ∈ p0, x.block < W.heap.size := by obtain ⟨m, hm⟩ := k0; exact DataW.trod_lt m _ _ _ hm
  obtain ⟨f0, hf0⟩ := h0
  have hcc0 : (Value.slice a0 len0 cap0).cells.toList = [.slice a0 len0 cap0] := by simp [Value.cells]
  rw [hcc0] at hf0
  obtain ⟨pp0, pc0, es0, ee0, R0, F0, B0, D0⟩ := arg_evs hf0
  simp only [Value.slice.injEq] at ee0
  obtain ⟨rfl, rfl, rfl⟩ := ee0
  obtain ⟨n1, rfl, rfl, rfl, wi1⟩ := open_int Try.underlying5 (hval 1 5 v1 rfl rfl) h1
  have bd1 := bounds_u8 wi1
  have b0 : es0.length * 32 ≤ 140737488351232 := sized_len (bytes := 32) hsz0 (j := 0) rfl rfl Try.underlying27 (by kernel_rfl) D0
  clear hA0
  refine (walk R0 F0 (by omega) bd1.1 bd1.2).mono fun e W' ⟨he, bel⟩ => ?_
  subst he
  exact ⟨_, rfl, _, _, _, [], _, [], hW', trodAll_mk1 (shut_bool Try.underlying4 _), (trodAll_cons_mk (Below.trod Try.laidOut (by kernel_rfl) (of_decide_eq_true (by kernel_rfl)) k0 bel lt0) (trodAll_cons_mk (shut_int Try.underlying5 wi1) trodAll_mk0)), rfl, bel.frame _, fun h => by cases h⟩

set_option maxRecDepth 100000 in
theorem lifted (os : Os) (started : os.Started) (H : Type) (enc : TypeId × Value → H) :
    ReturnsInHanded {} Try.checked os 6 .any (Rows.eventLeavesSpec.pre6 enc Try.prog Try.f6 Rows.eventLeavesRow.domain false) (Rows.eventLeavesSpec.post enc Try.prog Try.f6 false true false false) := by
  refine returnsInHanded_of_change_sized (C := Try.checked) Try.ownK started (by kernel_rfl) Try.func6
    (ChangeSpec.witness6 (enc := enc) (C := Try.checked) false ⟨#[], #[.slice none 0 0, .int .u8 0], []⟩ 8 (by kernel_rfl) (by kernel_rfl) (by kernel_rfl) (by kernel_rfl)) ?_
  intro W base args ds gs before hval hW _ hsz _
  exact contract H enc W base args ds gs before hval hW hsz

set_option maxRecDepth 100000 in
theorem proved : Rows.EventLeavesSaid :=
  OpenClaim.holds_of_wide 6 Try.f6 rfl rfl rfl rfl rfl rfl rfl ⟨rfl, rfl, rfl, rfl, rfl⟩ rfl rfl rfl rfl rfl (by kernel_rfl) Try.func6 (by kernel_rfl)
    (of_decide_eq_true (by kernel_rfl)) (by unfold Func.isWrapper; first | (rw [if_pos (by decide +kernel)]; kernel_rfl) | (rw [if_neg (by decide +kernel)]; exact ⟨rfl, rfl⟩))
    (fun os started H enc _ => lifted os started H enc)

end Go.Proofs.Ytihbdlbnpkmafaa.eventLeaves
