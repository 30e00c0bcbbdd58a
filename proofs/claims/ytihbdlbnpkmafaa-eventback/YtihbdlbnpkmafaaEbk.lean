/-
  EventBack: events and records are read as they were; what is read has those bytes: for every input. No conditions.
-/
import Derived.Test.YtihbdlbnpkmafaaEvh
import Derived.Test.YtihbdlbnpkmafaaEva
import Derived.Test.YtihbdlbnpkmafaaEve
namespace Go.Proofs.Ytihbdlbnpkmafaa.eventBack
open Go.ChangeShapes Go.WideShapes Go.ChangeAt Go.RowKit

theorem u8_of_bytes {es : List EV} {rb : List Int} {re : Int} (h : bytesC es = (rb, re)) : U8 rb := by
  unfold bytesC at h
  split at h
  · split at h
    · simp only [Prod.mk.injEq] at h; rw [← h.1]; exact forms_bd _
    · simp only [Prod.mk.injEq] at h; rw [← h.1]; intro x hx; cases hx
  · simp only [Prod.mk.injEq] at h; rw [← h.1]; intro x hx; cases hx
theorem len_of_bytes {es : List EV} {rb : List Int} {re : Int} (hf : ∀ e ∈ es, e.fine) (h : bytesC es = (rb, re)) : rb.length ≤ 1048576 := by
  unfold bytesC at h
  split at h
  · split at h
    · rename_i hl
      simp only [Prod.mk.injEq] at h
      rw [← h.1]
      have h1 : I64 ((es.length : Int) :: es.flatMap numsE) := by
        intro x hx
        rcases List.mem_cons.1 hx with rfl | hx
        · omega
        · exact nums_bds hf x hx
      have h2 := forms_len _ h1
      have h3 := nums_all es
      simp only [List.length_cons] at h2
      omega
    · simp only [Prod.mk.injEq] at h; rw [← h.1]; simp
  · simp only [Prod.mk.injEq] at h; rw [← h.1]; simp

set_option maxRecDepth 100000 in
set_option maxHeartbeats 8000000 in
theorem walk {W : World} {vb : Value} {b : List Int} {ky vl : Int} {p : Option Addr} {cap : Nat} {es : List EV} (ho : ERow W p cap es) (hfs : ∀ e ∈ es, e.fine) (_ : es.length * 32 ≤ 140737488351232) (hf : RC.fine ⟨ky, vl⟩) (hb : Row .u8 W vb b) (ub : U8 b) (sb : b.length ≤ 140737488351232) :
    Calls Try.prog 7 #[.slice p es.length cap, .agg #[.int .i64 ky, .int .i64 vl], vb] W fun e w' => e = .returned (.bool true) ∧ Below W.heap.size W w' := by
  obtain ⟨L, hL⟩ : ∃ L, es.length = L := ⟨_, rfl⟩
  have i3 := ho.le
  have i4 := ho.top
  rw [hL] at i3 ⊢
  obtain ⟨rb, re, hr⟩ : ∃ rb re, bytesC es = (rb, re) := ⟨_, _, rfl⟩
  obtain ⟨xs, c, hp⟩ : ∃ xs c, parseC b = (xs, c) := ⟨_, _, rfl⟩
  obtain ⟨M, hM⟩ : ∃ M, xs.length = M := ⟨_, rfl⟩
  have HU := hide (u8_of_bytes hr)
  have hrl := len_of_bytes hfs hr
  obtain ⟨pb, cb, rfl, j1, j2, _, _⟩ := id hb
  have hb0 := alloc_below W (.cells #[.int .i64 ky, .int .i64 vl] 24 (0, 0))
  have hv1 : (W.alloc (.cells #[.int .i64 ky, .int .i64 vl] 24 (0, 0))).heap[W.heap.size]? = some (.cells #[.int .i64 ky, .int .i64 vl] 24 (0, 0)) := heap_alloc_new W _
  obtain ⟨V, hV⟩ : ∃ V, V = W.alloc (.cells #[.int .i64 ky, .int .i64 vl] 24 (0, 0)) := ⟨_, rfl⟩
  rw [← hV] at hb0 hv1
  have HVB := hide hb0
  have HR := hide (hb.below hb0)
  have HO := hide (ho.later hb0)
  have HF := hide hf
  have HUB := hide ub
  have HFS := hide hfs
  have HL := hide hL
  have HM := hide hM
  have HRR := hide hr
  have HPP := hide hp
  clear hb ho hf ub hfs hb0 hL hr hp hM
  go_enter Try.func7, Try.ntmps7
  go_wp2_with fail
  rw [← hV]
  obtain ⟨gB, hgB⟩ : ∃ gB, W.heap.size = gB := ⟨_, rfl⟩
  rw [hgB] at hv1
  try rw [hgB]
  have HXX : Hid (∀ X, Below V.heap.size V X → X.cell? ⟨gB, 0, none⟩ = some (.int .i64 ky) ∧ X.cell? ⟨gB, 1, none⟩ = some (.int .i64 vl)) := hide (fun X hX => by
    refine ⟨?_, ?_⟩ <;> exact cell_later hX (by simp [World.cell?, hv1]))
  clear hV hgB hv1
  refine begun_any.mono ?_
  rintro _ w1 ⟨rfl, b1⟩
  have HB1 := hide b1
  have HBY := hide (bytes_any (HO.out.later b1) HFS.out HL.out HRR.out)
  clear b1
  go_wp2_with fail
  refine HBY.out.mono ?_
  rintro _ w2 ⟨p2, c2, rfl, O2, b2⟩
  have HB2 := hide (HB1.out.trans (b2.mono HB1.out.size))
  have HR2 := hide (own_row O2)
  clear O2 b2 HBY HB1
  by_cases hre : re = 0
  · subst hre
    have hpt := parse_there HFS.out HRR.out
    have HPA := parse_any HR2.out HU.out (by omega) hpt
    rw [HL.out] at HPA
    have HPA := hide HPA
    clear hpt
    go_wp2_with fail
    refine HPA.out.mono ?_
    rintro _ w3 ⟨p3, c3, rfl, O3, b3⟩
    have HB3 := hide (HB2.out.trans (b3.mono HB2.out.size))
    have HEV := hide (eqev_any (LRow.of_own EV.len HL.out O3) (HO.out.later HB3.out) HL.out)
    clear O3 b3 HPA
    go_wp2_with fail
    refine HEV.out.mono ?_
    rintro _ w4 ⟨rfl, b4⟩
    have HB4 := hide (HB3.out.trans (b4.mono HB3.out.size))
    clear b4 HEV
    obtain ⟨x0, x1⟩ := HXX.out w4 HB4.out
    have HRB := hide (recb_any (W := w4) (ky := ky) (vl := vl) HF.out)
    go_wp2_with fail
    refine HRB.out.mono ?_
    rintro _ w5 ⟨p5, c5, rfl, O5, b5⟩
    have HB5 := hide (HB4.out.trans (b5.mono HB4.out.size))
    have HPR := hide (prec_any (own_row O5) (forms_bd _) (by
      have h := forms_len [ky, vl] (by
        intro x hx
        simp only [List.mem_cons, List.not_mem_nil, or_false] at hx
        rcases hx with rfl | rfl
        · exact HF.out.1
        · exact HF.out.2)
      simp only [List.length_cons, List.length_nil] at h
      omega) (prec_there (r := ⟨ky, vl⟩) HF.out))
    obtain ⟨N5, hN5⟩ : ∃ N5, (forms [ky, vl]).length = N5 := ⟨_, rfl⟩
    rw [hN5] at HPR ⊢
    clear O5 b5 x0 x1 HRB hN5
    go_wp2_with fail
    refine HPR.out.mono ?_
    rintro _ w6 ⟨rfl, b6⟩
    try simp only
    have b7 := b6.trans ((alloc_below w6 (.cells #[.int .i64 ky, .int .i64 vl] 24 (0, 0))).mono b6.size)
    have HB7 := hide (HB5.out.trans (b7.mono HB5.out.size))
    obtain ⟨x0, x1⟩ := HXX.out _ HB7.out
    have HPA := parse_any (HR.out.below HB7.out) HUB.out (by omega) HPP.out
    rw [HM.out] at HPA
    have HPA := hide HPA
    clear b6 b7 HPR
    go_wp2_with fail
    refine HPA.out.mono ?_
    rintro _ w8 ⟨p8, c8, rfl, O8, b8⟩
    have HB8 := hide (HB7.out.trans (b8.mono HB7.out.size))
    by_cases hc : c = 0
    · subst hc
      obtain ⟨hbb, hxf⟩ := parse_back HUB.out HPP.out
      have HE8 := LRow.of_own EV.len HM.out O8
      have HBB := hide (bytes_any HE8 hxf HM.out hbb)
      clear O8 b8 HPA HE8 hbb hxf x0 x1
      go_wp2_with fail
      refine HBB.out.mono ?_
      rintro _ w9 ⟨p9, c9, rfl, O9, b9⟩
      have HB9 := hide (HB8.out.trans (b9.mono HB8.out.size))
      have HEQ := hide (equal_any (own_row O9) (HR.out.below HB9.out) HUB.out HUB.out)
      rw [decide_eq_true rfl] at HEQ
      clear O9 b9 HBB
      go_wp2_with fail
      refine HEQ.out.mono ?_
      rintro _ w10 ⟨rfl, rfl⟩
      have HFN := hide (HVB.out.trans (HB9.out.mono HVB.out.size))
      clear HEQ
      go_wp2
      go_ret
      exact ⟨rfl, HFN.out⟩
    · have ne1 : (c != 0) = true := by simpa using hc
      have HFN := hide (HVB.out.trans (HB8.out.mono HVB.out.size))
      clear hc O8 b8 HPA x0 x1
      go_wp2
      go_ret
      exact ⟨rfl, HFN.out⟩
  · have ne0 : (re == 0) = false := ne_eq hre
    clear hre
    obtain ⟨x0, x1⟩ := HXX.out w2 HB2.out
    have HRB := hide (recb_any (W := w2) (ky := ky) (vl := vl) HF.out)
    go_wp2_with fail
    refine HRB.out.mono ?_
    rintro _ w5 ⟨p5, c5, rfl, O5, b5⟩
    have HB5 := hide (HB2.out.trans (b5.mono HB2.out.size))
    have HPR := hide (prec_any (own_row O5) (forms_bd _) (by
      have h := forms_len [ky, vl] (by
        intro x hx
        simp only [List.mem_cons, List.not_mem_nil, or_false] at hx
        rcases hx with rfl | rfl
        · exact HF.out.1
        · exact HF.out.2)
      simp only [List.length_cons, List.length_nil] at h
      omega) (prec_there (r := ⟨ky, vl⟩) HF.out))
    obtain ⟨N5, hN5⟩ : ∃ N5, (forms [ky, vl]).length = N5 := ⟨_, rfl⟩
    rw [hN5] at HPR ⊢
    clear O5 b5 x0 x1 HRB hN5
    go_wp2_with fail
    refine HPR.out.mono ?_
    rintro _ w6 ⟨rfl, b6⟩
    try simp only
    have b7 := b6.trans ((alloc_below w6 (.cells #[.int .i64 ky, .int .i64 vl] 24 (0, 0))).mono b6.size)
    have HB7 := hide (HB5.out.trans (b7.mono HB5.out.size))
    obtain ⟨x0, x1⟩ := HXX.out _ HB7.out
    have HPA := parse_any (HR.out.below HB7.out) HUB.out (by omega) HPP.out
    rw [HM.out] at HPA
    have HPA := hide HPA
    clear b6 b7 HPR
    go_wp2_with fail
    refine HPA.out.mono ?_
    rintro _ w8 ⟨p8, c8, rfl, O8, b8⟩
    have HB8 := hide (HB7.out.trans (b8.mono HB7.out.size))
    by_cases hc : c = 0
    · subst hc
      obtain ⟨hbb, hxf⟩ := parse_back HUB.out HPP.out
      have HE8 := LRow.of_own EV.len HM.out O8
      have HBB := hide (bytes_any HE8 hxf HM.out hbb)
      clear O8 b8 HPA HE8 hbb hxf x0 x1
      go_wp2_with fail
      refine HBB.out.mono ?_
      rintro _ w9 ⟨p9, c9, rfl, O9, b9⟩
      have HB9 := hide (HB8.out.trans (b9.mono HB8.out.size))
      have HEQ := hide (equal_any (own_row O9) (HR.out.below HB9.out) HUB.out HUB.out)
      rw [decide_eq_true rfl] at HEQ
      clear O9 b9 HBB
      go_wp2_with fail
      refine HEQ.out.mono ?_
      rintro _ w10 ⟨rfl, rfl⟩
      have HFN := hide (HVB.out.trans (HB9.out.mono HVB.out.size))
      clear HEQ
      go_wp2
      go_ret
      exact ⟨rfl, HFN.out⟩
    · have ne1 : (c != 0) = true := by simpa using hc
      have HFN := hide (HVB.out.trans (HB8.out.mono HVB.out.size))
      clear hc O8 b8 HPA x0 x1
      go_wp2
      go_ret
      exact ⟨rfl, HFN.out⟩
set_option maxRecDepth 100000 in
theorem contract (H : Type) (enc : TypeId × Value → H) (W : World) (base : Nat) (args : Array Value) (ds gs : List (DataW H)) (before : List MemPlace)
    (hval : ∀ (j : Nat) t v, Try.f7.params[j]? = some t → args[j]? = some v → Value.okWide Try.prog W .any base t v)
    (hW : DataW.Whole enc Try.prog Try.f7.params.toList Rows.eventBackSpec.vars false W args.toList ds gs before) (hsz0 : (DataW.weightsEach Try.prog (Try.f7.params.toList ++ Rows.eventBackSpec.plain.varTypes Try.prog) (ds ++ gs)).all (· ≤ reachBytes) = true) :
    Calls Try.prog 7 args W fun e W' => ∃ v, e = .returned v ∧ Rows.eventBackSpec.post enc Try.prog Try.f7 false true false false W args v W' := by
  have hW' := hW
  obtain ⟨p, q, hA0, hV, rfl, hfz, hnd⟩ := hW
  have hA : DataW.TrodAll enc Try.prog W 0 (fun _ => true) true Try.f7.params.toList args.toList ds p := hA0
  rw [Try.params7] at hA hval hsz0
  obtain ⟨v0, vs0, d0, ds0, p0, q0, hargs, rfl, rfl, h0, r0⟩ := trodAll_cons hA
  obtain ⟨v1, vs1, d1, ds1, p1, q1, rfl, rfl, rfl, h1, r1⟩ := trodAll_cons r0
  obtain ⟨v2, vs2, d2, ds2, p2, q2, rfl, rfl, rfl, h2, r2⟩ := trodAll_cons r1
  obtain ⟨rfl, rfl, rfl⟩ := trodAll_nil r2
  obtain rfl : args = #[v0, v1, v2] := by cases args; simp_all
  obtain ⟨rfl, rfl⟩ := trodVars_none hV
  obtain ⟨a0, len0, cap0, rfl⟩ := okWide_slice Try.underlying27 (hval 0 27 v0 rfl rfl)
  obtain ⟨cs1, rfl, hcs1⟩ := okWide_struct Try.underlying24 (hval 1 24 v1 rfl rfl)
  rw [Try.cellsRec] at hcs1
  obtain ⟨a2, len2, cap2, rfl⟩ := okWide_slice Try.underlying22 (hval 2 22 v2 rfl rfl)
  have k0 := h0
  have lt0 : ∀ x ∈ p0, x.block < W.heap.size := by obtain ⟨m, hm⟩ := k0; exact DataW.trod_lt m _ _ _ hm
  obtain ⟨f0, hf0⟩ := h0
  have hcc0 : (Value.slice a0 len0 cap0).cells.toList = [.slice a0 len0 cap0] := by simp [Value.cells]
  rw [hcc0] at hf0
  obtain ⟨pp0, pc0, es0, ee0, R0, F0, B0, D0⟩ := arg_evs hf0
  simp only [Value.slice.injEq] at ee0
  obtain ⟨rfl, rfl, rfl⟩ := ee0
  have k1 := h1
  have lt1 : ∀ x ∈ p1, x.block < W.heap.size := by obtain ⟨m, hm⟩ := k1; exact DataW.trod_lt m _ _ _ hm
  obtain ⟨f1, hf1⟩ := h1
  have hcc1 : (Value.agg cs1).cells.toList = cs1.toList := by simp [Value.cells]
  rw [hcc1] at hf1
  obtain ⟨o1, oc1, F1⟩ := arg_rec _ _ _ (by simpa using hcs1) hf1
  obtain rfl : cs1 = (RC.cells o1).toArray := by rw [← oc1]
  obtain ⟨ky1, vl1⟩ := o1
  have k2 := h2
  have lt2 : ∀ x ∈ p2, x.block < W.heap.size := by obtain ⟨m, hm⟩ := k2; exact DataW.trod_lt m _ _ _ hm
  obtain ⟨f2, hf2⟩ := h2
  obtain ⟨l2, e2, R2, wf2, D2⟩ := arg_row Try.underlying22 Try.underlying5 (by kernel_rfl) hf2
  have b0 : es0.length * 32 ≤ 140737488351232 := sized_len (bytes := 32) hsz0 (j := 0) rfl rfl Try.underlying27 (by kernel_rfl) D0
  have b2 : len2 * 1 ≤ 140737488351232 := sized_len (bytes := 1) hsz0 (j := 2) rfl rfl Try.underlying22 (by kernel_rfl) D2
  clear hA0
  refine (walk R0 F0 (by omega) F1 R2 (wf_u8 wf2) (by omega)).mono fun e W' ⟨he, bel⟩ => ?_
  subst he
  exact ⟨_, rfl, _, _, _, [], _, [], hW', trodAll_mk1 (shut_bool Try.underlying4 _), (trodAll_cons_mk (Below.trod Try.laidOut (by kernel_rfl) (of_decide_eq_true (by kernel_rfl)) k0 bel lt0) (trodAll_cons_mk (Below.trod Try.laidOut (by kernel_rfl) (of_decide_eq_true (by kernel_rfl)) k1 bel lt1) (trodAll_cons_mk (Below.trod Try.laidOut (by kernel_rfl) (of_decide_eq_true (by kernel_rfl)) k2 bel lt2) trodAll_mk0))), rfl, bel.frame _, fun h => by cases h⟩

set_option maxRecDepth 100000 in
theorem lifted (os : Os) (started : os.Started) (H : Type) (enc : TypeId × Value → H) :
    ReturnsInHanded {} Try.checked os 7 .any (Rows.eventBackSpec.pre6 enc Try.prog Try.f7 Rows.eventBackRow.domain false) (Rows.eventBackSpec.post enc Try.prog Try.f7 false true false false) := by
  refine returnsInHanded_of_change_sized (C := Try.checked) Try.ownK started (by kernel_rfl) Try.func7
    (ChangeSpec.witness6 (enc := enc) (C := Try.checked) false ⟨#[], #[.slice none 0 0, .agg #[.int .i64 0, .int .i64 0], .slice none 0 0], []⟩ 8 (by kernel_rfl) (by kernel_rfl) (by kernel_rfl) (by kernel_rfl)) ?_
  intro W base args ds gs before hval hW _ hsz _
  exact contract H enc W base args ds gs before hval hW hsz

set_option maxRecDepth 100000 in
theorem proved : Rows.EventBackSaid :=
  OpenClaim.holds_of_wide 7 Try.f7 rfl rfl rfl rfl rfl rfl rfl ⟨rfl, rfl, rfl, rfl, rfl⟩ rfl rfl rfl rfl rfl (by kernel_rfl) Try.func7 (by kernel_rfl)
    (of_decide_eq_true (by kernel_rfl)) (by unfold Func.isWrapper; first | (rw [if_pos (by decide +kernel)]; kernel_rfl) | (rw [if_neg (by decide +kernel)]; exact ⟨rfl, rfl⟩))
    (fun os started H enc _ => lifted os started H enc)

end Go.Proofs.Ytihbdlbnpkmafaa.eventBack
