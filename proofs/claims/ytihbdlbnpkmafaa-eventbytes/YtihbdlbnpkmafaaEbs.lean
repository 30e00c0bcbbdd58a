/-
  EventBytes: which events may be, and the bytes of any, behind any others: for every input. No conditions.
-/
import Derived.Test.YtihbdlbnpkmafaaEvg
import Derived.Deep.RegionHeld3
import Derived.Deep.Cut
import Derived.Deep.CutBlock
import Derived.BigRegion
import Derived.BigQuiet
import Derived.WalkMore
import Derived.Lib.Bytes
namespace Go.Proofs.Ytihbdlbnpkmafaa
open Go.RowKit

set_option maxHeartbeats 1000000 in
theorem sclone_any {v : Value} {l : List Int} {w : World} (h : Row .u8 w v l) (hbig : l.length ≤ 140737488355328) :
    Calls Try.prog 11 #[v] w fun e w' => ∃ v', e = .returned v' ∧ w'.ownsRow w.heap.size 5 1 v' l.length (l.map (Value.int .u8)) ∧ Below w.heap.size w w' := by
  obtain ⟨i0, hi, hz0, hz1, hz2⟩ := info_parts Try.infoU8
  have q : ∀ (w : World) (a : Option Addr) (n c : Nat), (binOp .eql 22 (.slice a n c) (.slice none 0 0)).run Try.prog w = .ok (.bool a.isNone) w := fun w a n c => Lib.run_eql_slice_nil w _ _ a n c 0 0 Try.underlying22
  obtain ⟨p, cap, rfl, g1, g2, g3, g4⟩ := id h
  cases p with
  | none =>
    obtain rfl : cap = 0 := g3 rfl
    obtain rfl : l = [] := List.eq_nil_of_length_eq_zero (by omega)
    go_enter Try.func11, Try.ntmps11
    go_wp2
    go_ret
    exact ⟨_, rfl, World.ownsRow_nil _ _ _ _, Below.refl _ _⟩
  | some ad =>
    have HG : Hid (Row .u8 w (.slice (some ad) l.length cap) l) := h
    clear h g3 g4
    go_enter Try.func11, Try.ntmps11
    go_wp2_with (at_builtin; refine append_row _ rfl _ _ 22 rfl w.heap.size 5 i0 .u8 1 Try.underlying22 hi hz0 hz1 hz2 _ _ _ rfl (World.ownsRow_made w #[] 0 (Nat.le_refl _) (Nat.zero_le _) rfl) _ l rfl (HG.out.below ((Below.refl _ w).alloc (Nat.le_refl _) _)) ?_ ?_ ?_ ?_)
    · omega
    · omega
    · simp
    intro v' w1 hown hgrow
    go_wp2
    go_ret
    exact ⟨v', rfl, by simpa using hown, ((Below.refl _ w).alloc (Nat.le_refl _) _).grown hgrow (by simp) (by intro k hk; simp [Value.ownBlock] at hk; omega)⟩

end Go.Proofs.Ytihbdlbnpkmafaa
namespace Go.Proofs.Ytihbdlbnpkmafaa.eventBytes
open Go.ChangeShapes Go.WideShapes Go.ChangeAt Go.RowKit

theorem u8_of_bytes {es : List EV} {rb : List Int} {re : Int} (h : bytesC es = (rb, re)) : U8 rb := by
  unfold bytesC at h
  split at h
  · split at h
    · simp only [Prod.mk.injEq] at h; rw [← h.1]; exact forms_bd _
    · simp only [Prod.mk.injEq] at h; rw [← h.1]; intro x hx; cases hx
  · simp only [Prod.mk.injEq] at h; rw [← h.1]; intro x hx; cases hx

set_option maxRecDepth 100000 in
set_option maxHeartbeats 16000000 in
theorem walk {W : World} {vb : Value} {b : List Int} {kd ky vl id : Int} {p : Option Addr} {cap : Nat} {es : List EV} (hb : Row .u8 W vb b) (ub : U8 b) (sb : b.length ≤ 140737488351232) (hf : EV.fine ⟨kd, ky, vl, id⟩) (ho : ERow W p cap es) (hfs : ∀ e ∈ es, e.fine) (_ : es.length * 32 ≤ 140737488351232) :
    Calls Try.prog 3 #[vb, .agg #[.int .i64 kd, .int .i64 ky, .int .i64 vl, .int .i64 id], .slice p es.length cap] W fun e w' => e = .returned (.bool true) ∧ Below W.heap.size W w' := by
  obtain ⟨L, hL⟩ : ∃ L, es.length = L := ⟨_, rfl⟩
  have i3 := ho.le
  have i4 := ho.top
  rw [hL] at i3 ⊢
  obtain ⟨rb, re, hr⟩ : ∃ rb re, bytesC es = (rb, re) := ⟨_, _, rfl⟩
  have HU := hide (u8_of_bytes hr)
  obtain ⟨pb, cb, rfl, j1, j2, _, _⟩ := _root_.id hb
  have hb0 := alloc_below W (.cells #[.int .i64 kd, .int .i64 ky, .int .i64 vl, .int .i64 id] 26 (0, 0))
  have hv1 : (W.alloc (.cells #[.int .i64 kd, .int .i64 ky, .int .i64 vl, .int .i64 id] 26 (0, 0))).heap[W.heap.size]? = some (.cells #[.int .i64 kd, .int .i64 ky, .int .i64 vl, .int .i64 id] 26 (0, 0)) := heap_alloc_new W _
  obtain ⟨V, hV⟩ : ∃ V, V = W.alloc (.cells #[.int .i64 kd, .int .i64 ky, .int .i64 vl, .int .i64 id] 26 (0, 0)) := ⟨_, rfl⟩
  rw [← hV] at hb0 hv1
  have HVB := hide hb0
  have HR := hide (hb.below hb0)
  have HO := hide (ho.later hb0)
  have HF := hide hf
  have HUB := hide ub
  have HBY := hide (bytes_any HO.out hfs hL hr)
  have HFS := hide hfs
  have HL := hide hL
  have HRR := hide hr
  clear hb ho hf ub hfs hb0 hL hr
  go_enter Try.func3, Try.ntmps3
  go_wp2_with fail
  rw [← hV]
  obtain ⟨gB, hgB⟩ : ∃ gB, W.heap.size = gB := ⟨_, rfl⟩
  rw [hgB] at hv1
  try rw [hgB]
  have HXX : Hid (∀ X, Below V.heap.size V X → X.cell? ⟨gB, 0, none⟩ = some (.int .i64 kd) ∧ X.cell? ⟨gB, 1, none⟩ = some (.int .i64 ky) ∧ X.cell? ⟨gB, 2, none⟩ = some (.int .i64 vl) ∧ X.cell? ⟨gB, 3, none⟩ = some (.int .i64 id)) := hide (fun X hX => by
    refine ⟨?_, ?_, ?_, ?_⟩ <;> exact cell_later hX (by simp [World.cell?, hv1]))
  clear hV hgB hv1
  refine HBY.out.mono ?_
  rintro _ w1 ⟨p1, c1, rfl, O1, b1⟩
  have HR1 := hide (own_row O1)
  have HB1 := hide b1
  have HBY2 := hide (rbytes_any (HO.out.later b1) HFS.out HL.out HRR.out)
  clear O1 b1 HBY
  go_wp2_with fail
  refine HBY2.out.mono ?_
  rintro _ w2 ⟨p2, c2, rfl, R2, b2⟩
  have HR2 := hide R2
  have HR1' := hide (HR1.out.below b2)
  have HB2 := hide (HB1.out.trans (b2.mono HB1.out.size))
  have HSC := hide (sclone_any (HR.out.below HB2.out) (by omega))
  clear R2 b2 HBY2 HR1 HB1
  go_wp2_with fail
  refine HSC.out.mono ?_
  rintro _ w3 ⟨v3, rfl, O3, b3⟩
  obtain ⟨p3, c3, rfl, O3'⟩ := own_bytes O3
  have HR3 := hide (own_row O3')
  have HRA := hide (HR1'.out.below b3)
  have HRB := hide (HR2.out.below b3)
  have HB3 := hide (HB2.out.trans (b3.mono HB2.out.size))
  have HRV := hide (HR.out.below HB3.out)
  clear O3 O3' b3 HSC HR1' HR2 HB2
  go_upto_region 4 with fail
  have HZ : Hid (∀ X, Below w3.heap.size w3 X → Below V.heap.size V X) := hide (fun X hX => HB3.out.trans (hX.mono HB3.out.size))
  obtain ⟨T, hT⟩ : ∃ T, b ++ forms (numsE ⟨kd, ky, vl, id⟩) = T := ⟨_, rfl⟩
  obtain ⟨N, hN⟩ : ∃ N, T.length = N := ⟨_, rfl⟩
  obtain ⟨T2, hT2⟩ : ∃ T2, forms [ky, vl] = T2 := ⟨_, rfl⟩
  obtain ⟨N2, hN2⟩ : ∃ N2, T2.length = N2 := ⟨_, rfl⟩
  have HU1 : Hid (U8 T) := hide (by rw [← hT]; exact HUB.out.append (forms_bd _))
  have HU2 : Hid (U8 T2) := hide (by rw [← hT2]; exact forms_bd _)
  have HPUT : Hid (∀ X, Below w3.heap.size w3 X → Calls Try.prog 16 #[.slice pb b.length cb, .agg #[.int .i64 kd, .int .i64 ky, .int .i64 vl, .int .i64 id]] X fun e w' => ∃ p c, e = .returned (.slice p N c) ∧ Row .u8 w' (.slice p N c) T ∧ Below X.heap.size X w') := hide (fun X hX => by
    have h := put_ev (HRV.out.below hX) (by omega) HF.out
    rw [hT, hN] at h
    exact h.mono fun e w' ⟨p, c, h1, h2, h3⟩ => ⟨p, c, h1, own_row h2, h3⟩)
  have HRPU : Hid (∀ X, Below w3.heap.size w3 X → Calls Try.prog 17 #[.slice p3 b.length c3, .agg #[.int .i64 kd, .int .i64 ky, .int .i64 vl, .int .i64 id]] X fun e w' => ∃ p c, e = .returned (.slice p N c) ∧ Row .u8 w' (.slice p N c) T ∧ Below X.heap.size X w') := hide (fun X hX => by
    have h := rput_ev (HR3.out.below hX) (by omega) HF.out
    rw [hT, hN] at h
    exact h)
  have HREC : Hid (∀ X, Calls Try.prog 18 #[.agg #[.int .i64 ky, .int .i64 vl]] X fun e w' => ∃ p c, e = .returned (.slice p N2 c) ∧ Row .u8 w' (.slice p N2 c) T2 ∧ Below X.heap.size X w') := hide (fun X => by
    have h := recb_any (W := X) (ky := ky) (vl := vl) ⟨HF.out.2.1, HF.out.2.2.1⟩
    rw [hT2, hN2] at h
    exact h.mono fun e w' ⟨p, c, h1, h2, h3⟩ => ⟨p, c, h1, own_row h2, h3⟩)
  have HRRE : Hid (∀ X, Calls Try.prog 19 #[.agg #[.int .i64 ky, .int .i64 vl]] X fun e w' => ∃ p c, e = .returned (.slice p N2 c) ∧ Row .u8 w' (.slice p N2 c) T2 ∧ Below X.heap.size X w') := hide (fun X => by
    have h := rrecb_any (W := X) (ky := ky) (vl := vl) ⟨HF.out.2.1, HF.out.2.2.1⟩
    rw [hT2, hN2] at h
    exact h.mono fun e w' ⟨p, c, h1, h2, h3⟩ => ⟨p, c, h1, own_row h2, h3⟩)
  clear hT hN hT2 hN2
  obtain ⟨q1, q2, q3, q4⟩ := HXX.out w3 HB3.out
  have B0 : Below w3.heap.size w3 w3.drew := (Below.refl _ w3).drew
  go_region_held3 (fun w' => w'.cell? ⟨gB, 0, none⟩ = some (.int .i64 kd) ∧ w'.cell? ⟨gB, 1, none⟩ = some (.int .i64 ky) ∧ w'.cell? ⟨gB, 2, none⟩ = some (.int .i64 vl) ∧ w'.cell? ⟨gB, 3, none⟩ = some (.int .i64 id)) (go_keep)
    (first
      | (go_at_call 12; refine begun_any.mono ?_; rintro _ x1 ⟨rfl, d1⟩; have B1 : Below w3.heap.size w3 x1 := B0.trans d1; obtain ⟨s11, s12, s13, s14⟩ := HXX.out _ (HZ.out _ B1))
      | (go_at_call 13; refine check_any.mono ?_; rintro _ x2 ⟨rfl, d2⟩; have B2 : Below w3.heap.size w3 x2 := B1.trans (d2.mono B1.size); obtain ⟨s21, s22, s23, s24⟩ := HXX.out _ (HZ.out _ B2))
      | (go_at_call 14; refine rcheck_any.mono ?_; rintro _ x3 ⟨rfl, d3⟩; have B3 : Below w3.heap.size w3 x3 := B2.trans (d3.mono B2.size); obtain ⟨s31, s32, s33, s34⟩ := HXX.out _ (HZ.out _ B3))
      | (go_at_call 16; refine (HPUT.out _ B3).mono ?_; rintro _ x4 ⟨pa, ca, rfl, oa, d4⟩; have B4 : Below w3.heap.size w3 x4 := B3.trans (d4.mono B3.size); obtain ⟨s41, s42, s43, s44⟩ := HXX.out _ (HZ.out _ B4); have HOA := hide oa; clear oa)
      | (go_at_call 17; refine (HRPU.out _ B4).mono ?_; rintro _ x5 ⟨pc, cc, rfl, rc, d5⟩; have B5 : Below w3.heap.size w3 x5 := B4.trans (d5.mono B4.size); obtain ⟨s51, s52, s53, s54⟩ := HXX.out _ (HZ.out _ B5); have HRC := hide rc; have HOA' := hide (HOA.out.below d5); clear rc)
      | (go_at_call 15; refine (equal_any HOA'.out HRC.out HU1.out HU1.out).mono ?_; rintro _ x6 ⟨rfl, rfl⟩; rw [decide_eq_true rfl])
      | (go_at_call 15; refine (equal_any (HRA.out.below B5) (HRB.out.below B5) HU.out HU.out).mono ?_; rintro _ x7 ⟨rfl, rfl⟩; rw [decide_eq_true rfl])
      | (go_at_call 18; refine (HREC.out _).mono ?_; rintro _ x8 ⟨pd, cd, rfl, od, d8⟩; have B8 : Below w3.heap.size w3 x8 := B5.trans (d8.mono B5.size); obtain ⟨s81, s82, s83, s84⟩ := HXX.out _ (HZ.out _ B8); have HOD := hide od; clear od)
      | (go_at_call 19; refine (HRRE.out _).mono ?_; rintro _ x9 ⟨pe, ce, rfl, oe, d9⟩; have B9 : Below w3.heap.size w3 x9 := B8.trans (d9.mono B8.size); obtain ⟨s91, s92, s93, s94⟩ := HXX.out _ (HZ.out _ B9); have HOE := hide oe; have HOD' := hide (HOD.out.below d9); clear oe)
      | (go_at_call 15; refine (equal_any HOD'.out HOE.out HU2.out HU2.out).mono ?_; rintro _ x10 ⟨rfl, rfl⟩; rw [decide_eq_true rfl]))
  have HFN := hide (HVB.out.trans ((HZ.out _ B9).mono HVB.out.size))
  clear s11 s12 s13 s14 s21 s22 s23 s24 s31 s32 s33 s34 s41 s42 s43 s44 s51 s52 s53 s54 s81 s82 s83 s84 s91 s92 s93 s94 q1 q2 q3 q4
  go_wp2
  go_ret
  exact ⟨rfl, HFN.out⟩
set_option maxRecDepth 100000 in
theorem contract (H : Type) (enc : TypeId × Value → H) (W : World) (base : Nat) (args : Array Value) (ds gs : List (DataW H)) (before : List MemPlace)
    (hval : ∀ (j : Nat) t v, Try.f3.params[j]? = some t → args[j]? = some v → Value.okWide Try.prog W .any base t v)
    (hW : DataW.Whole enc Try.prog Try.f3.params.toList Rows.eventBytesSpec.vars false W args.toList ds gs before) (hsz0 : (DataW.weightsEach Try.prog (Try.f3.params.toList ++ Rows.eventBytesSpec.plain.varTypes Try.prog) (ds ++ gs)).all (· ≤ reachBytes) = true) :
    Calls Try.prog 3 args W fun e W' => ∃ v, e = .returned v ∧ Rows.eventBytesSpec.post enc Try.prog Try.f3 false true false false W args v W' := by
  have hW' := hW
  obtain ⟨p, q, hA0, hV, rfl, hfz, hnd⟩ := hW
  have hA : DataW.TrodAll enc Try.prog W 0 (fun _ => true) true Try.f3.params.toList args.toList ds p := hA0
  rw [Try.params3] at hA hval hsz0
  obtain ⟨v0, vs0, d0, ds0, p0, q0, hargs, rfl, rfl, h0, r0⟩ := trodAll_cons hA
  obtain ⟨v1, vs1, d1, ds1, p1, q1, rfl, rfl, rfl, h1, r1⟩ := trodAll_cons r0
  obtain ⟨v2, vs2, d2, ds2, p2, q2, rfl, rfl, rfl, h2, r2⟩ := trodAll_cons r1
  obtain ⟨rfl, rfl, rfl⟩ := trodAll_nil r2
  obtain rfl : args = #[v0, v1, v2] := by cases args; simp_all
  obtain ⟨rfl, rfl⟩ := trodVars_none hV
  obtain ⟨a0, len0, cap0, rfl⟩ := okWide_slice Try.underlying22 (hval 0 22 v0 rfl rfl)
  obtain ⟨cs1, rfl, hcs1⟩ := okWide_struct Try.underlying26 (hval 1 26 v1 rfl rfl)
  rw [Try.cellsEv] at hcs1
  obtain ⟨a2, len2, cap2, rfl⟩ := okWide_slice Try.underlying27 (hval 2 27 v2 rfl rfl)
  have k0 := h0
  have lt0 : ∀ x ∈ p0, x.block < W.heap.size := by obtain ⟨m, hm⟩ := k0; exact DataW.trod_lt m _ _ _ hm
  obtain ⟨f0, hf0⟩ := h0
  obtain ⟨l0, e0, R0, wf0, D0⟩ := arg_row Try.underlying22 Try.underlying5 (by kernel_rfl) hf0
  have k1 := h1
  have lt1 : ∀ x ∈ p1, x.block < W.heap.size := by obtain ⟨m, hm⟩ := k1; exact DataW.trod_lt m _ _ _ hm
  obtain ⟨f1, hf1⟩ := h1
  have hcc1 : (Value.agg cs1).cells.toList = cs1.toList := by simp [Value.cells]
  rw [hcc1] at hf1
  obtain ⟨o1, oc1, F1, _⟩ := arg_ev _ _ _ (by simpa using hcs1) hf1
  obtain rfl : cs1 = (EV.cells o1).toArray := by rw [← oc1]
  obtain ⟨kd1, ky1, vl1, id1⟩ := o1
  have k2 := h2
  have lt2 : ∀ x ∈ p2, x.block < W.heap.size := by obtain ⟨m, hm⟩ := k2; exact DataW.trod_lt m _ _ _ hm
  obtain ⟨f2, hf2⟩ := h2
  have hcc2 : (Value.slice a2 len2 cap2).cells.toList = [.slice a2 len2 cap2] := by simp [Value.cells]
  rw [hcc2] at hf2
  obtain ⟨pp2, pc2, es2, ee2, R2, F2, B2, D2⟩ := arg_evs hf2
  simp only [Value.slice.injEq] at ee2
  obtain ⟨rfl, rfl, rfl⟩ := ee2
  have b0 : len0 * 1 ≤ 140737488351232 := sized_len (bytes := 1) hsz0 (j := 0) rfl rfl Try.underlying22 (by kernel_rfl) D0
  have b2 : es2.length * 32 ≤ 140737488351232 := sized_len (bytes := 32) hsz0 (j := 2) rfl rfl Try.underlying27 (by kernel_rfl) D2
  clear hA0
  refine (walk R0 (wf_u8 wf0) (by omega) F1 R2 F2 (by omega)).mono fun e W' ⟨he, bel⟩ => ?_
  subst he
  exact ⟨_, rfl, _, _, _, [], _, [], hW', trodAll_mk1 (shut_bool Try.underlying4 _), (trodAll_cons_mk (Below.trod Try.laidOut (by kernel_rfl) (of_decide_eq_true (by kernel_rfl)) k0 bel lt0) (trodAll_cons_mk (Below.trod Try.laidOut (by kernel_rfl) (of_decide_eq_true (by kernel_rfl)) k1 bel lt1) (trodAll_cons_mk (Below.trod Try.laidOut (by kernel_rfl) (of_decide_eq_true (by kernel_rfl)) k2 bel lt2) trodAll_mk0))), rfl, bel.frame _, fun h => by cases h⟩

set_option maxRecDepth 100000 in
theorem lifted (os : Os) (started : os.Started) (H : Type) (enc : TypeId × Value → H) :
    ReturnsInHanded {} Try.checked os 3 .any (Rows.eventBytesSpec.pre6 enc Try.prog Try.f3 Rows.eventBytesRow.domain false) (Rows.eventBytesSpec.post enc Try.prog Try.f3 false true false false) := by
  refine returnsInHanded_of_change_sized (C := Try.checked) Try.ownK started (by kernel_rfl) Try.func3
    (ChangeSpec.witness6 (enc := enc) (C := Try.checked) false ⟨#[], #[.slice none 0 0, .agg #[.int .i64 0, .int .i64 0, .int .i64 0, .int .i64 0], .slice none 0 0], []⟩ 8 (by kernel_rfl) (by kernel_rfl) (by kernel_rfl) (by kernel_rfl)) ?_
  intro W base args ds gs before hval hW _ hsz _
  exact contract H enc W base args ds gs before hval hW hsz

set_option maxRecDepth 100000 in
theorem proved : Rows.EventBytesSaid :=
  OpenClaim.holds_of_wide 3 Try.f3 rfl rfl rfl rfl rfl rfl rfl ⟨rfl, rfl, rfl, rfl, rfl⟩ rfl rfl rfl rfl rfl (by kernel_rfl) Try.func3 (by kernel_rfl)
    (of_decide_eq_true (by kernel_rfl)) (by unfold Func.isWrapper; first | (rw [if_pos (by decide +kernel)]; kernel_rfl) | (rw [if_neg (by decide +kernel)]; exact ⟨rfl, rfl⟩))
    (fun os started H enc _ => lifted os started H enc)

end Go.Proofs.Ytihbdlbnpkmafaa.eventBytes
