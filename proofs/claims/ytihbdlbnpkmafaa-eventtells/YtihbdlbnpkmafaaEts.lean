/-
  EventTells: the records of any events, those ahead of a barrier, those between barriers: for every input. No conditions.
-/
import Derived.Test.YtihbdlbnpkmafaaEqf
import Derived.Test.YtihbdlbnpkmafaaEry
import Derived.Test.YtihbdlbnpkmafaaEvg
import Derived.Deep.RegionHeld3
import Derived.BigRegion
import Derived.BigQuiet
import Derived.WalkMore
namespace Go.Proofs.Ytihbdlbnpkmafaa.eventTells
open Go.ChangeShapes Go.WideShapes Go.ChangeAt Go.RowKit

set_option maxRecDepth 100000 in
set_option maxHeartbeats 8000000 in
theorem walk {W : World} {p : Option Addr} {c : Nat} {es : List EV} (hR : ERow W p c es) (_hf : ∀ e ∈ es, e.fine) (hb : es.length * 32 ≤ 140737488351232) :
    Calls Try.prog 5 #[.slice p es.length c] W fun e w' => e = .returned (.bool true) ∧ Below W.heap.size W w' := by
  obtain ⟨L, hL⟩ : ∃ L, es.length = L := ⟨_, rfl⟩
  obtain ⟨N, hN⟩ : ∃ N, (epochsL (knownL es)).length = N := ⟨_, rfl⟩
  obtain ⟨M, hM⟩ : ∃ M, (rcsOf es).length = M := ⟨_, rfl⟩
  obtain ⟨U, hU⟩ : ∃ U, (rcsOf (noB es)).length = U := ⟨_, rfl⟩
  rw [hL] at hb ⊢
  have HL := hide hL
  have HM := hide hM
  have HN := hide hN
  have HU := hide hU
  have HBB := hide hb
  have HC1 := hide (fun (w : World) (hw : Below W.heap.size W w) => records_any (ERow.later hR hw) hL (by omega))
  have HC2 := hide (fun (w : World) (hw : Below W.heap.size W w) => rrecords_any (ERow.later hR hw) hL hb hM)
  have HC3 := hide (fun (w : World) (hw : Below W.heap.size W w) => upto_any (ERow.later hR hw) hL (by omega))
  have HC4 := hide (fun (w : World) (hw : Below W.heap.size W w) => rupto_any (ERow.later hR hw) hL hb hU)
  have HC5 := hide (fun (w : World) (hw : Below W.heap.size W w) => epochs_any (ERow.later hR hw) hL (by omega))
  have HC6 := hide (fun (w : World) (hw : Below W.heap.size W w) => repochs_any (ERow.later hR hw) hL hb hN)
  clear hR hL hM hN hU hb
  go_enter Try.func5, Try.ntmps5
  go_wp2_with fail
  refine begun_any.mono ?_
  rintro _ w1 ⟨rfl, b1⟩
  have HB1 := hide b1
  clear b1
  go_wp2_with fail
  refine (HC1.out _ HB1.out).mono ?_
  rintro _ w2 ⟨eb, kb, p2, c2, rfl, k2, b2⟩
  have HB2 := hide (HB1.out.trans (b2.mono HB1.out.size))
  have HT2 := hide (told_rec k2 HL.out HBB.out HM.out)
  clear k2 b2 HB1 HC1
  go_wp2_with fail
  refine HT2.out.mono ?_
  rintro _ w3 ⟨p3, c3, rfl, o3, b3⟩
  have HB3 := hide (HB2.out.trans (b3.mono HB2.out.size))
  have HR3 := hide (LRow.of_own RC.len HM.out o3)
  clear o3 b3 HT2 HB2
  go_wp2_with fail
  refine (HC2.out _ HB3.out).mono ?_
  rintro _ w4 ⟨p4, c4, rfl, o4, b4⟩
  have HB4 := hide (HB3.out.trans (b4.mono HB3.out.size))
  have HE4 := hide (eqrc_any (RRow.later HR3.out b4) (LRow.of_own RC.len HM.out o4) HM.out)
  clear o4 b4 HC2 HB3 HR3
  go_wp2_with fail
  refine HE4.out.mono ?_
  rintro _ w5 ⟨rfl, b5⟩
  have HB5 := hide (HB4.out.trans (b5.mono HB4.out.size))
  clear b5 HE4 HB4
  go_wp2_with fail
  refine (HC3.out _ HB5.out).mono ?_
  rintro _ w6 ⟨eb6, kb6, p6, c6, rfl, k6, b6⟩
  have HB6 := hide (HB5.out.trans (b6.mono HB5.out.size))
  have HT6 := hide (told_upto k6 HL.out HBB.out HU.out)
  clear k6 b6 HB5 HC3
  go_wp2_with fail
  refine HT6.out.mono ?_
  rintro _ w7 ⟨p7, c7, rfl, o7, b7⟩
  have HB7 := hide (HB6.out.trans (b7.mono HB6.out.size))
  have HR7 := hide (LRow.of_own RC.len HU.out o7)
  clear o7 b7 HT6 HB6
  go_wp2_with fail
  refine (HC4.out _ HB7.out).mono ?_
  rintro _ w8 ⟨p8, c8, rfl, o8, b8⟩
  have HB8 := hide (HB7.out.trans (b8.mono HB7.out.size))
  have HE8 := hide (eqrc_any (RRow.later HR7.out b8) (LRow.of_own RC.len HU.out o8) HU.out)
  clear o8 b8 HC4 HB7 HR7
  go_wp2_with fail
  refine HE8.out.mono ?_
  rintro _ w9 ⟨rfl, b9⟩
  have HB9 := hide (HB8.out.trans (b9.mono HB8.out.size))
  clear b9 HE8 HB8
  go_wp2_with fail
  refine (HC5.out _ HB9.out).mono ?_
  rintro _ v2 ⟨eb2, kb2, pp2, cc2, rfl, kk2, bb2⟩
  have HV2 := hide (HB9.out.trans (bb2.mono HB9.out.size))
  have HTV := hide (parted_any kk2 HL.out HBB.out HN.out)
  clear kk2 bb2 HB9 HC5
  go_wp2_with fail
  refine HTV.out.mono ?_
  rintro _ v3 ⟨pp3, cc3, rfl, oo3, bb3⟩
  have HV3 := hide (HV2.out.trans (bb3.mono HV2.out.size))
  have HA3 := hide oo3
  clear oo3 bb3 HTV HV2
  go_wp2_with fail
  refine (HC6.out _ HV3.out).mono ?_
  rintro _ v4 ⟨pp4, cc4, rfl, oo4, bb4⟩
  have HV4 := hide (HV3.out.trans (bb4.mono HV3.out.size))
  have HE := hide (eqf_any (HA3.out.later bb4) oo4 HN.out)
  clear oo4 bb4 HC6 HV3 HA3
  go_wp2_with fail
  refine HE.out.mono ?_
  rintro _ v5 ⟨rfl, bb5⟩
  have HV5 := hide (HV4.out.trans (bb5.mono HV4.out.size))
  clear bb5
  go_wp2
  go_ret
  exact ⟨rfl, HV5.out⟩
set_option maxRecDepth 100000 in
theorem contract (H : Type) (enc : TypeId × Value → H) (W : World) (base : Nat) (args : Array Value) (ds gs : List (DataW H)) (before : List MemPlace)
    (hval : ∀ (j : Nat) t v, Try.f5.params[j]? = some t → args[j]? = some v → Value.okWide Try.prog W .any base t v)
    (hW : DataW.Whole enc Try.prog Try.f5.params.toList Rows.eventTellsSpec.vars false W args.toList ds gs before) (hsz0 : (DataW.weightsEach Try.prog (Try.f5.params.toList ++ Rows.eventTellsSpec.plain.varTypes Try.prog) (ds ++ gs)).all (· ≤ reachBytes) = true) :
    Calls Try.prog 5 args W fun e W' => ∃ v, e = .returned v ∧ Rows.eventTellsSpec.post enc Try.prog Try.f5 false true false false W args v W' := by
  have hW' := hW
  obtain ⟨p, q, hA0, hV, rfl, hfz, hnd⟩ := hW
  have hA : DataW.TrodAll enc Try.prog W 0 (fun _ => true) true Try.f5.params.toList args.toList ds p := hA0
  rw [Try.params5] at hA hval hsz0
  obtain ⟨v0, vs0, d0, ds0, p0, q0, hargs, rfl, rfl, h0, r0⟩ := trodAll_cons hA
  obtain ⟨rfl, rfl, rfl⟩ := trodAll_nil r0
  obtain rfl : args = #[v0] := by cases args; simp_all
  obtain ⟨rfl, rfl⟩ := trodVars_none hV
  obtain ⟨a0, len0, cap0, rfl⟩ := okWide_slice Try.underlying27 (hval 0 27 v0 rfl rfl)
  have k0 := h0
  have lt0 : ∀ x ∈ p0, x.block < W.heap.size := by obtain ⟨m, hm⟩ := k0; exact DataW.trod_lt m _ _ _ hm
  obtain ⟨f0, hf0⟩ := h0
  have hcc0 : (Value.slice a0 len0 cap0).cells.toList = [.slice a0 len0 cap0] := by simp [Value.cells]
  rw [hcc0] at hf0
  obtain ⟨pp0, pc0, es0, ee0, R0, F0, B0, D0⟩ := arg_evs hf0
  simp only [Value.slice.injEq] at ee0
  obtain ⟨rfl, rfl, rfl⟩ := ee0
  have b0 : es0.length * 32 ≤ 140737488351232 := sized_len (bytes := 32) hsz0 (j := 0) rfl rfl Try.underlying27 (by kernel_rfl) D0
  clear hA0
  refine (walk R0 F0 (by omega)).mono fun e W' ⟨he, bel⟩ => ?_
  subst he
  exact ⟨_, rfl, _, _, _, [], _, [], hW', trodAll_mk1 (shut_bool Try.underlying4 _), (trodAll_cons_mk (Below.trod Try.laidOut (by kernel_rfl) (of_decide_eq_true (by kernel_rfl)) k0 bel lt0) trodAll_mk0), rfl, bel.frame _, fun h => by cases h⟩

set_option maxRecDepth 100000 in
theorem lifted (os : Os) (started : os.Started) (H : Type) (enc : TypeId × Value → H) :
    ReturnsInHanded {} Try.checked os 5 .any (Rows.eventTellsSpec.pre6 enc Try.prog Try.f5 Rows.eventTellsRow.domain false) (Rows.eventTellsSpec.post enc Try.prog Try.f5 false true false false) := by
  refine returnsInHanded_of_change_sized (C := Try.checked) Try.ownK started (by kernel_rfl) Try.func5
    (ChangeSpec.witness6 (enc := enc) (C := Try.checked) false ⟨#[], #[.slice none 0 0], []⟩ 8 (by kernel_rfl) (by kernel_rfl) (by kernel_rfl) (by kernel_rfl)) ?_
  intro W base args ds gs before hval hW _ hsz _
  exact contract H enc W base args ds gs before hval hW hsz

set_option maxRecDepth 100000 in
theorem proved : Rows.EventTellsSaid :=
  OpenClaim.holds_of_wide 5 Try.f5 rfl rfl rfl rfl rfl rfl rfl ⟨rfl, rfl, rfl, rfl, rfl⟩ rfl rfl rfl rfl rfl (by kernel_rfl) Try.func5 (by kernel_rfl)
    (of_decide_eq_true (by kernel_rfl)) (by unfold Func.isWrapper; first | (rw [if_pos (by decide +kernel)]; kernel_rfl) | (rw [if_neg (by decide +kernel)]; exact ⟨rfl, rfl⟩))
    (fun os started H enc _ => lifted os started H enc)

end Go.Proofs.Ytihbdlbnpkmafaa.eventTells
