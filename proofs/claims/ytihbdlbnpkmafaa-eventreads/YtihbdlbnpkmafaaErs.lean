/-
  EventReads: the events, the record, and the event with which any bytes begin, or what keeps them from it: for every input. No conditions.
-/
import Derived.Test.YtihbdlbnpkmafaaEva
import Derived.Test.YtihbdlbnpkmafaaEve
import Derived.Deep.RegionHeld3
import Derived.Deep.Cut
import Derived.Deep.CutBlock
import Derived.BigRegion
import Derived.BigQuiet
import Derived.WalkMore
namespace Go.Proofs.Ytihbdlbnpkmafaa.eventReads
open Go.ChangeShapes Go.WideShapes Go.ChangeAt Go.RowKit

set_option maxRecDepth 100000 in
set_option maxHeartbeats 16000000 in
theorem walk {W : World} {v : Value} {b : List Int} (hb : Row .u8 W v b) (ub : U8 b) (sb : b.length ≤ 140737488351232) :
    Calls Try.prog 4 #[v] W fun e w' => e = .returned (.bool true) ∧ Below W.heap.size W w' := by
  obtain ⟨xs, c, hp⟩ : ∃ xs c, parseC b = (xs, c) := ⟨_, _, rfl⟩
  obtain ⟨⟨ky, vl⟩, d, hpr⟩ : ∃ r d, precC b = (r, d) := ⟨_, _, rfl⟩
  obtain ⟨⟨ekd, eky, evl, eid⟩, l2, e2, ht⟩ : ∃ x l2 e2, takeR b 0 = (x, l2, e2) := ⟨_, _, _, rfl⟩
  have HR := hide hb
  have HU := hide ub
  have HP := hide hp
  have HPR := hide hpr
  have HT := hide ht
  obtain ⟨L, hL⟩ : ∃ L, xs.length = L := ⟨_, rfl⟩
  have HL := hide hL
  have HPA := parse_any hb ub (by omega) hp
  rw [hL] at HPA
  have HPA := hide HPA
  obtain ⟨pb, cb, rfl, i1, i2, _, _⟩ := id hb
  clear hb ub hp hpr ht hL
  go_enter Try.func4, Try.ntmps4
  go_wp2_with fail
  refine HPA.out.mono ?_
  rintro _ w1 ⟨p1, c1, rfl, O1, b1⟩
  have HB1 := hide b1
  have HR1 := hide (LRow.of_own EV.len HL.out O1)
  have HPB := rparse_any (HR.out.below b1) HU.out HP.out
  rw [HL.out] at HPB
  have HPB := hide HPB
  clear O1 b1 HPA
  go_wp2_with fail
  refine HPB.out.mono ?_
  rintro _ w2 ⟨p2, c2, rfl, O2, b2⟩
  have HB2 := hide (HB1.out.trans (b2.mono HB1.out.size))
  have HR2 := hide (LRow.of_own EV.len HL.out O2)
  have HR1' := hide (ERow.later HR1.out b2)
  have HPC := hide (prec_any (HR.out.below HB2.out) HU.out (by omega) HPR.out)
  clear O2 b2 HPB HB1 HR1
  go_wp2_with fail
  refine HPC.out.mono ?_
  rintro _ w3 ⟨rfl, b3⟩
  try simp only
  have hb3 := alloc_below w3 (.cells #[.int .i64 ky, .int .i64 vl] 24 (0, 0))
  have q3 : (w3.alloc (.cells #[.int .i64 ky, .int .i64 vl] 24 (0, 0))).heap[w3.heap.size]? = some (.cells #[.int .i64 ky, .int .i64 vl] 24 (0, 0)) := heap_alloc_new w3 _
  obtain ⟨w4, hw4⟩ : ∃ w4, w4 = w3.alloc (.cells #[.int .i64 ky, .int .i64 vl] 24 (0, 0)) := ⟨_, rfl⟩
  rw [← hw4] at hb3 q3
  have b4 := b3.trans (hb3.mono b3.size)
  have HB4 := hide (HB2.out.trans (b4.mono HB2.out.size))
  have HR1b := hide (ERow.later HR1'.out b4)
  have HR2b := hide (ERow.later HR2.out b4)
  obtain ⟨k7, hk7⟩ : ∃ k7, w3.heap.size = k7 := ⟨_, rfl⟩
  rw [hk7] at q3
  have HPD := hide (rprec_any (HR.out.below HB4.out) HU.out HPR.out)
  clear b3 hb3 b4 HPC HB2 HR1' HR2
  go_wp2_with fail
  rw [← hw4]
  try rw [hk7]
  clear hw4 hk7
  refine HPD.out.mono ?_
  rintro _ w5 ⟨rfl, b5⟩
  try simp only
  have hb5 := alloc_below w5 (.cells #[.int .i64 ky, .int .i64 vl] 24 (0, 0))
  have q5 : (w5.alloc (.cells #[.int .i64 ky, .int .i64 vl] 24 (0, 0))).heap[w5.heap.size]? = some (.cells #[.int .i64 ky, .int .i64 vl] 24 (0, 0)) := heap_alloc_new w5 _
  obtain ⟨w6, hw6⟩ : ∃ w6, w6 = w5.alloc (.cells #[.int .i64 ky, .int .i64 vl] 24 (0, 0)) := ⟨_, rfl⟩
  rw [← hw6] at hb5 q5
  have b6 := b5.trans (hb5.mono b5.size)
  have q36 := below_boxE b6 q3
  have HB6 := hide (HB4.out.trans (b6.mono HB4.out.size))
  have HR1c := hide (ERow.later HR1b.out b6)
  have HR2c := hide (ERow.later HR2b.out b6)
  obtain ⟨k9, hk9⟩ : ∃ k9, w5.heap.size = k9 := ⟨_, rfl⟩
  rw [hk9] at q5
  have hl7 := (Array.getElem?_eq_some_iff.1 q36).1
  have hl9 := (Array.getElem?_eq_some_iff.1 q5).1
  have HOP := hide (open_more (HR.out.below HB6.out) HU.out (by omega))
  clear b5 hb5 b6 HPD HB4 HR1b HR2b q3
  go_wp2_with fail
  rw [← hw6]
  try rw [hk9]
  clear hw6 hk9
  refine HOP.out.mono ?_
  rintro _ w7 ⟨bu, v7, rfl, hbu, U7, b7, hbl, _⟩
  have HZ7 := hide b7
  have HROP := hide (ropen_any (HR.out.below (HB6.out.trans (b7.mono HB6.out.size))) HU.out)
  clear b7 HOP
  go_wp2_with fail
  refine HROP.out.mono ?_
  rintro _ w8 ⟨rfl, U8', hw8⟩
  have b8 : Below w7.heap.size w7 w8 := by rw [hw8]; exact alloc_below _ _
  obtain ⟨bw, hbw⟩ : ∃ bw, w7.heap.size = bw := ⟨_, rfl⟩
  have UR : RUnp (fun k => bw ≤ k) w8 bw (.slice pb b.length cb) b 0 := by rw [← hbw]; exact U8'
  have UU := U7.below b8
  have HZ8 := hide (HZ7.out.trans (b8.mono HZ7.out.size))
  have HTA := hide (take_ev UU HT.out)
  have HNB := hide UU.noBytes
  rw [hbw]
  have hub : bu < bw := by omega
  have hwb : w6.heap.size ≤ bw := by omega
  clear U8' hw8 b8 U7 UU HROP HZ7 hbw
  go_wp2_with fail
  refine HTA.out.mono ?_
  rintro _ w9 ⟨rfl, N9, p9, c9, U9⟩
  have HZ9 : Hid (Below w6.heap.size w6 w9) := hide (HZ8.out.trans (N9.below HZ8.out.size (fun i e => by have e' : i = bu := e; omega)))
  have UR9 := UR.turn N9 (fun e => by have e' : bw = bu := e; omega) (fun i e => .inr (by have e' : i = bu := e; rw [e']; exact HNB.out))
  have HTB := hide (rtake_ev UR9 HT.out)
  have HNR := hide UR9.noBytes
  have HU9 := hide U9
  clear N9 UR HTA HNB UR9 U9 HZ8
  unfold EV.agg
  try simp only
  go_wp2_with fail
  refine HTB.out.mono ?_
  rintro _ w10 ⟨rfl, N10, p10, c10, UR10⟩
  unfold EV.agg
  try simp only
  have HZ10 : Hid (Below w6.heap.size w6 w10) := hide (HZ9.out.trans (N10.below HZ9.out.size (fun i e => by have e' : i = bw := e; omega)))
  have UU10 := HU9.out.turn N10 (fun e => by have e' : bu = bw := e; omega) (fun i e => .inr (by have e' : i = bw := e; rw [e']; exact HNR.out))
  clear N10 HTB HNR HU9 HZ9
  obtain ⟨w11, hw11⟩ : ∃ w11, w11 = (w10.alloc (.cells #[.int .i64 ekd, .int .i64 eky, .int .i64 evl, .int .i64 eid] 26 (0, 0))).alloc (.cells #[.int .i64 ekd, .int .i64 eky, .int .i64 evl, .int .i64 eid] 26 (0, 0)) := ⟨_, rfl⟩
  have b11 : Below w10.heap.size w10 w11 := by rw [hw11]; exact (alloc_below _ _).trans ((alloc_below _ _).mono (by simp))
  have q13 : w11.heap[w10.heap.size]? = some (.cells #[.int .i64 ekd, .int .i64 eky, .int .i64 evl, .int .i64 eid] 26 (0, 0)) := by
    rw [hw11]; exact below_boxE (alloc_below _ _) (heap_alloc_new _ _)
  have q14 : w11.heap[w10.heap.size + 1]? = some (.cells #[.int .i64 ekd, .int .i64 eky, .int .i64 evl, .int .i64 eid] 26 (0, 0)) := by
    have h := heap_alloc_new (w10.alloc (.cells #[.int .i64 ekd, .int .i64 eky, .int .i64 evl, .int .i64 eid] 26 (0, 0))) (.cells #[.int .i64 ekd, .int .i64 eky, .int .i64 evl, .int .i64 eid] 26 (0, 0))
    rw [World.size_alloc] at h
    rw [hw11]
    exact h
  have HZ11 := hide (HZ10.out.trans (b11.mono HZ10.out.size))
  have UU11 := UU10.below b11
  have UR11 := UR10.below b11
  obtain ⟨k13, hk13⟩ : ∃ k13, w10.heap.size = k13 := ⟨_, rfl⟩
  rw [hk13] at q13 q14
  have r7 := below_boxE HZ11.out q36
  have r9 := below_boxE HZ11.out q5
  have HR1z := hide (ERow.later HR1c.out HZ11.out)
  have HR2z := hide (ERow.later HR2c.out HZ11.out)
  have HXX : Hid (∀ X, Below w11.heap.size w11 X → (X.cell? ⟨k7, 0, none⟩ = some (.int .i64 ky) ∧ X.cell? ⟨k7, 1, none⟩ = some (.int .i64 vl) ∧ X.cell? ⟨k9, 0, none⟩ = some (.int .i64 ky) ∧ X.cell? ⟨k9, 1, none⟩ = some (.int .i64 vl) ∧
      X.cell? ⟨k13, 0, none⟩ = some (.int .i64 ekd) ∧ X.cell? ⟨k13, 1, none⟩ = some (.int .i64 eky) ∧ X.cell? ⟨k13, 2, none⟩ = some (.int .i64 evl) ∧ X.cell? ⟨k13, 3, none⟩ = some (.int .i64 eid) ∧
      X.cell? ⟨k13 + 1, 0, none⟩ = some (.int .i64 ekd) ∧ X.cell? ⟨k13 + 1, 1, none⟩ = some (.int .i64 eky) ∧ X.cell? ⟨k13 + 1, 2, none⟩ = some (.int .i64 evl) ∧ X.cell? ⟨k13 + 1, 3, none⟩ = some (.int .i64 eid) ∧ X.cell? ⟨bw, 1, none⟩ = some (.int .i64 e2))) := hide (fun X hX => by
    refine ⟨?_, ?_, ?_, ?_, ?_, ?_, ?_, ?_, ?_, ?_, ?_, ?_, cell_later hX UR11.c1⟩
    · exact cell_later hX (by simp [World.cell?, r7])
    · exact cell_later hX (by simp [World.cell?, r7])
    · exact cell_later hX (by simp [World.cell?, r9])
    · exact cell_later hX (by simp [World.cell?, r9])
    · exact cell_later hX (by simp [World.cell?, q13])
    · exact cell_later hX (by simp [World.cell?, q13])
    · exact cell_later hX (by simp [World.cell?, q13])
    · exact cell_later hX (by simp [World.cell?, q13])
    · exact cell_later hX (by simp [World.cell?, q14])
    · exact cell_later hX (by simp [World.cell?, q14])
    · exact cell_later hX (by simp [World.cell?, q14])
    · exact cell_later hX (by simp [World.cell?, q14]))
  have HUU := hide UU11
  have HWF : Hid (∀ X, Below w11.heap.size w11 X → Below W.heap.size W X) := hide (fun X hX => HB6.out.trans ((HZ11.out.trans (hX.mono HZ11.out.size)).mono HB6.out.size))
  clear UU10 UR10 UU11 UR11 q13 q14 q36 q5 r7 r9 b11 HR1c HR2c HZ10
  go_upto_region 7 with fail
  rw [← hw11]
  try rw [hk13]
  clear hw11 hk13
  obtain ⟨t1, t2, t3, t4, t5, t6, t7, t8, t9, t10, t11, t12, t13⟩ := HXX.out w11 (Below.refl _ _)
  have B0 : Below w11.heap.size w11 w11.drew := (Below.refl _ w11).drew
  go_region_held3 (fun w' => w'.cell? ⟨k7, 0, none⟩ = some (.int .i64 ky) ∧ w'.cell? ⟨k7, 1, none⟩ = some (.int .i64 vl) ∧ w'.cell? ⟨k9, 0, none⟩ = some (.int .i64 ky) ∧ w'.cell? ⟨k9, 1, none⟩ = some (.int .i64 vl) ∧ w'.cell? ⟨k13, 0, none⟩ = some (.int .i64 ekd) ∧ w'.cell? ⟨k13, 1, none⟩ = some (.int .i64 eky) ∧ w'.cell? ⟨k13, 2, none⟩ = some (.int .i64 evl) ∧ w'.cell? ⟨k13, 3, none⟩ = some (.int .i64 eid) ∧ w'.cell? ⟨k13 + 1, 0, none⟩ = some (.int .i64 ekd) ∧ w'.cell? ⟨k13 + 1, 1, none⟩ = some (.int .i64 eky) ∧ w'.cell? ⟨k13 + 1, 2, none⟩ = some (.int .i64 evl) ∧ w'.cell? ⟨k13 + 1, 3, none⟩ = some (.int .i64 eid) ∧ w'.cell? ⟨bw, 1, none⟩ = some (.int .i64 e2)) (go_keep)
    (first
      | (go_at_call 12; refine begun_any.mono ?_; rintro _ x1 ⟨rfl, d1⟩; have B1 : Below w11.heap.size w11 x1 := B0.trans d1; obtain ⟨s11, s12, s13, s14, s15, s16, s17, s18, s19, s110, s111, s112, s113⟩ := HXX.out _ B1)
      | (go_at_call 28; refine (eqev_any (ERow.later HR1z.out B1) (ERow.later HR2z.out B1) HL.out).mono ?_; rintro _ x2 ⟨rfl, d2⟩; have B2 : Below w11.heap.size w11 x2 := B1.trans (d2.mono B1.size); obtain ⟨s21, s22, s23, s24, s25, s26, s27, s28, s29, s210, s211, s212, s213⟩ := HXX.out _ B2)
      | (go_at_call 29; refine (err_any (HUU.out.below B2)).mono ?_; rintro _ x3 ⟨rfl, rfl⟩))
  have HFN := hide (HWF.out _ B2)
  clear t1 t2 t3 t4 t5 t6 t7 t8 t9 t10 t11 t12 t13 s11 s12 s13 s14 s15 s16 s17 s18 s19 s110 s111 s112 s113 s21 s22 s23 s24 s25 s26 s27 s28 s29 s210 s211 s212 s213
  go_wp2
  go_ret
  exact ⟨rfl, HFN.out⟩
set_option maxRecDepth 100000 in
theorem contract (H : Type) (enc : TypeId × Value → H) (W : World) (base : Nat) (args : Array Value) (ds gs : List (DataW H)) (before : List MemPlace)
    (hval : ∀ (j : Nat) t v, Try.f4.params[j]? = some t → args[j]? = some v → Value.okWide Try.prog W .any base t v)
    (hW : DataW.Whole enc Try.prog Try.f4.params.toList Rows.eventReadsSpec.vars false W args.toList ds gs before) (hsz0 : (DataW.weightsEach Try.prog (Try.f4.params.toList ++ Rows.eventReadsSpec.plain.varTypes Try.prog) (ds ++ gs)).all (· ≤ reachBytes) = true) :
    Calls Try.prog 4 args W fun e W' => ∃ v, e = .returned v ∧ Rows.eventReadsSpec.post enc Try.prog Try.f4 false true false false W args v W' := by
  have hW' := hW
  obtain ⟨p, q, hA0, hV, rfl, hfz, hnd⟩ := hW
  have hA : DataW.TrodAll enc Try.prog W 0 (fun _ => true) true Try.f4.params.toList args.toList ds p := hA0
  rw [Try.params4] at hA hval hsz0
  obtain ⟨v0, vs0, d0, ds0, p0, q0, hargs, rfl, rfl, h0, r0⟩ := trodAll_cons hA
  obtain ⟨rfl, rfl, rfl⟩ := trodAll_nil r0
  obtain rfl : args = #[v0] := by cases args; simp_all
  obtain ⟨rfl, rfl⟩ := trodVars_none hV
  obtain ⟨a0, len0, cap0, rfl⟩ := okWide_slice Try.underlying22 (hval 0 22 v0 rfl rfl)
  have k0 := h0
  have lt0 : ∀ x ∈ p0, x.block < W.heap.size := by obtain ⟨m, hm⟩ := k0; exact DataW.trod_lt m _ _ _ hm
  obtain ⟨f0, hf0⟩ := h0
  obtain ⟨l0, e0, R0, wf0, D0⟩ := arg_row Try.underlying22 Try.underlying5 (by kernel_rfl) hf0
  have b0 : len0 * 1 ≤ 140737488351232 := sized_len (bytes := 1) hsz0 (j := 0) rfl rfl Try.underlying22 (by kernel_rfl) D0
  clear hA0
  refine (walk R0 (wf_u8 wf0) (by omega)).mono fun e W' ⟨he, bel⟩ => ?_
  subst he
  exact ⟨_, rfl, _, _, _, [], _, [], hW', trodAll_mk1 (shut_bool Try.underlying4 _), (trodAll_cons_mk (Below.trod Try.laidOut (by kernel_rfl) (of_decide_eq_true (by kernel_rfl)) k0 bel lt0) trodAll_mk0), rfl, bel.frame _, fun h => by cases h⟩

set_option maxRecDepth 100000 in
theorem lifted (os : Os) (started : os.Started) (H : Type) (enc : TypeId × Value → H) :
    ReturnsInHanded {} Try.checked os 4 .any (Rows.eventReadsSpec.pre6 enc Try.prog Try.f4 Rows.eventReadsRow.domain false) (Rows.eventReadsSpec.post enc Try.prog Try.f4 false true false false) := by
  refine returnsInHanded_of_change_sized (C := Try.checked) Try.ownK started (by kernel_rfl) Try.func4
    (ChangeSpec.witness6 (enc := enc) (C := Try.checked) false ⟨#[], #[.slice none 0 0], []⟩ 8 (by kernel_rfl) (by kernel_rfl) (by kernel_rfl) (by kernel_rfl)) ?_
  intro W base args ds gs before hval hW _ hsz _
  exact contract H enc W base args ds gs before hval hW hsz

set_option maxRecDepth 100000 in
theorem proved : Rows.EventReadsSaid :=
  OpenClaim.holds_of_wide 4 Try.f4 rfl rfl rfl rfl rfl rfl rfl ⟨rfl, rfl, rfl, rfl, rfl⟩ rfl rfl rfl rfl rfl (by kernel_rfl) Try.func4 (by kernel_rfl)
    (of_decide_eq_true (by kernel_rfl)) (by unfold Func.isWrapper; first | (rw [if_pos (by decide +kernel)]; kernel_rfl) | (rw [if_neg (by decide +kernel)]; exact ⟨rfl, rfl⟩))
    (fun os started H enc _ => lifted os started H enc)

end Go.Proofs.Ytihbdlbnpkmafaa.eventReads
