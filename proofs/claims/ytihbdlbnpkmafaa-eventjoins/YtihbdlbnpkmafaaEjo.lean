/-
  EventJoins: the records between barriers, one behind the other, are all records: for every input. No conditions.
-/
import Derived.Test.YtihbdlbnpkmafaaEjs
import Derived.Test.YtihbdlbnpkmafaaEve
import Derived.Test.YtihbdlbnpkmafaaEvg
import Derived.Deep.RegionHeld3
import Derived.BigRegion
import Derived.BigQuiet
import Derived.WalkMore
namespace Go.Proofs.Ytihbdlbnpkmafaa.eventJoins
open Go.ChangeShapes Go.WideShapes Go.ChangeAt Go.RowKit

theorem told_rec {W : World} {eb kb L cap : Nat} {p : Option Addr} {es : List EV} (h : KRd eb kb L cap p es W) (hL : es.length = L) (hb : L * 32 ≤ 140737488351232) {M : Nat} (hM : (rcsOf (knownL es)).length = M) :
    Calls Try.prog 32 #[.func (.func 54) #[] #[.pointer (some ⟨eb, 0, none⟩)]] W fun e w' => ∃ p c, e = .returned (.slice p M c) ∧ w'.ownsRow W.heap.size 24 2 (.slice p M c) M ((rcsOf (knownL es)).flatMap RC.cells) ∧ Below W.heap.size W w' :=
  callsIn_wide.1 (told_in 5 (Nat.le_refl _) (Rd := KRd eb kb L cap p es) (fun q hq => by rw [← tellR_rc]; exact records_tells q hq hL) enRecords (fun X hX => h.later hX) (by have := rcs_len' (knownL es); have : (knownL es).length ≤ es.length := List.length_filter_le _ _; omega) hM)
def upL (eps : List Ep) (j : Nat) : List RC := (eps.take j).flatMap (·.2)
theorem upL_snoc {eps : List Ep} {j : Nat} {e : Ep} (h : eps[j]? = some e) : upL eps (j + 1) = upL eps j ++ e.2 := by
  unfold upL
  rw [List.take_add_one, h, List.flatMap_append]
  simp
theorem upL_le (eps : List Ep) (j : Nat) : (upL eps j).length ≤ (eps.flatMap (·.2)).length := by
  unfold upL
  conv => rhs; rw [← List.take_append_drop j eps]
  rw [List.flatMap_append, List.length_append]
  omega

set_option maxRecDepth 100000 in
set_option maxHeartbeats 8000000 in
theorem walk {W : World} {p : Option Addr} {c : Nat} {es : List EV} (hR : ERow W p c es) (_hf : ∀ e ∈ es, e.fine) (hb : es.length * 32 ≤ 140737488351232) :
    Calls Try.prog 8 #[.slice p es.length c] W fun e w' => e = .returned (.bool true) ∧ Below W.heap.size W w' := by
  obtain ⟨i0, hI0, hz0, hz1, hz2⟩ := info_parts Try.infoRec
  obtain ⟨L, hL⟩ : ∃ L, es.length = L := ⟨_, rfl⟩
  obtain ⟨eps, hep⟩ : ∃ eps, epochsL (knownL es) = eps := ⟨_, rfl⟩
  obtain ⟨N, hN⟩ : ∃ N, (epochsL (knownL es)).length = N := ⟨_, rfl⟩
  obtain ⟨M, hM⟩ : ∃ M, (rcsOf (knownL es)).length = M := ⟨_, rfl⟩
  have hjn : eps.flatMap (·.2) = rcsOf (knownL es) := by rw [← hep]; exact epochs_join _
  have hNe : eps.length = N := by rw [← hep]; exact hN
  have hML : M ≤ L := by have := rcs_len' (knownL es); have : (knownL es).length ≤ es.length := List.length_filter_le _ _; omega
  have HUP : Hid (∀ j, (upL eps j).length ≤ M) := hide (fun j => by rw [← hM, ← hjn]; exact upL_le eps j)
  have HJN := hide hjn
  have HEP := hide hep
  have HNE := hide hNe
  have HL := hide hL
  have HM := hide hM
  have HN := hide hN
  rw [hL] at hb ⊢
  have HBB := hide hb
  have HC := hide (fun (w : World) (hw : Below W.heap.size W w) => epochs_any (ERow.later hR hw) hL (by omega))
  have HC2 := hide (fun (w : World) (hw : Below W.heap.size W w) => records_any (ERow.later hR hw) hL (by omega))
  clear hR hL hM hN hep hjn hNe
  go_enter Try.func8, Try.ntmps8
  go_wp2_with fail
  refine begun_any.mono ?_
  rintro _ w1 ⟨rfl, b1⟩
  have HB1 := hide b1
  clear b1
  go_wp2_with fail
  refine (HC.out _ HB1.out).mono ?_
  rintro _ w2 ⟨eb, kb, p2, c2, rfl, k2, b2⟩
  have HB2 := hide (HB1.out.trans (b2.mono HB1.out.size))
  have HT2 := hide (parted_any k2 HL.out HBB.out HN.out)
  clear k2 b2 HB1 HC
  go_wp2_with fail
  refine HT2.out.mono ?_
  rintro _ V ⟨p3, c3, rfl, a3, b3⟩
  have HBV := hide (HB2.out.trans (b3.mono HB2.out.size))
  rw [HEP.out] at a3
  have HA := hide a3
  clear a3 b3 HB2 HT2
  go_wp2_with fail
  go_loopw [12, 3] (fun i s wq => ∃ (j m : Nat) (p1 : Option Addr) (c1 : Nat), j ≤ N ∧ i = .int .i64 (j : Int) ∧ s = .slice p1 m c1 ∧ Hid ((upL eps j).length = m) ∧ Hid (wq.ownsRow V.heap.size 24 2 (.slice p1 m c1) m ((upL eps j).flatMap RC.cells)) ∧ Hid (Below V.heap.size V wq)) (fun i _ _ => N - (intOf i).toNat)
  case atStart => exact ⟨0, 0, none, 0, Nat.zero_le _, rfl, rfl, hide rfl, hide (World.ownsRow_nil _ _ _ _), hide (Below.refl _ _)⟩
  case round =>
    obtain ⟨j, m, p1, c1, hj, rfl, rfl, HLm, HOW, HBq⟩ := hrel
    rename World => wq
    by_cases hjl : j < N
    · have hjl2 : j < eps.length := by rw [HNE.out]; exact hjl
      obtain ⟨⟨id, rs⟩, he⟩ : ∃ e, eps[j]? = some e := ⟨_, List.getElem?_eq_getElem hjl2⟩
      obtain ⟨hc1, hc2, hat⟩ := HA.out.later HBq.out
      obtain ⟨g, o, pj, cj, rfl, d0, d1, hrow⟩ := hat j _ he
      have hc3 : N ≤ c3 := by rw [← HNE.out]; exact hc1
      obtain ⟨n, hn⟩ : ∃ n, rs.length = n := ⟨_, rfl⟩
      simp only at d0 d1 hrow
      rw [hn] at d1
      have hup := upL_snoc he
      have hle : m + n ≤ M := by
        have := HUP.out (j + 1)
        rw [hup, List.length_append, HLm.out, hn] at this
        exact this
      have HUS := hide hup
      have HNN := hide hn
      have hab := alloc_below wq (.cells #[.int .i64 id, .slice pj n cj] 56 (0, 0))
      have hsg : Seg wq 2 (.slice pj rs.length cj) rs.length (rs.flatMap RC.cells) := hrow.seg (by decide) RC.len RC.one
      rw [hn] at hsg
      have HSG := hide (hsg.below hab)
      have HRW := hide (ownsRow_later HOW.out hab)
      have HAB := hide hab
      have HK1 : Hid (m + n ≤ maxLen) := by show _ ≤ _; unfold maxLen; omega
      have HK2 : Hid ((m + n) * 16 ≤ 140737488355328) := by show _ ≤ _; omega
      have HBS : Hid (V.heap.size ≤ (wq.alloc (.cells #[.int .i64 id, .slice pj n cj] 56 (0, 0))).heap.size) := hide (by have := HBq.out.size; have := hab.size; omega)
      clear hat hrow hn he hjl2 hup hab hsg hc1 hle
      go_wp2_with (at_builtin; refine append_cells _ rfl (.tmp 16) (.tmp 18) 54 rfl V.heap.size 24 i0 (.agg #[.int .i64 0, .int .i64 0]) 2 16 Try.underlying54 hI0 hz0 hz1 hz2 rfl (by decide) (.slice p1 m c1) m _ rfl HRW.out (.slice pj n cj) n _ rfl HSG.out HK1.out HK2.out HBS.out ?_)
      intro p' c' w5 hown hgrow
      have HB5 : Hid (Below V.heap.size V w5) := hide ((HBq.out.trans (HAB.out.mono HBq.out.size)).grown hgrow (Nat.le_trans HBq.out.size HAB.out.size) (fun i hi => own_block_base HRW.out hi))
      have HO5 : Hid (w5.ownsRow V.heap.size 24 2 (.slice p' (m + n) c') (m + n) ((upL eps (j + 1)).flatMap RC.cells)) := by
        refine hide ?_
        rw [HUS.out, List.flatMap_append]
        exact hown
      have HL5 : Hid ((upL eps (j + 1)).length = m + n) := hide (by rw [HUS.out, List.length_append, HLm.out, HNN.out])
      clear hown hgrow
      go_wp2
      exact ⟨⟨j + 1, m + n, p', c', by omega, by first | rfl | go_num, rfl, HL5, HO5, HB5⟩, by simp [intOf]; omega⟩
    · obtain rfl : j = N := by omega
      have hall : upL eps j = rcsOf (knownL es) := by
        rw [← HJN.out]
        unfold upL
        rw [List.take_of_length_le (by rw [HNE.out]; exact Nat.le_refl _)]
      have hmM : m = M := by rw [← HLm.out, hall]; exact HM.out
      subst hmM
      have hrr : RRow wq p1 c1 (rcsOf (knownL es)) := by
        have h := HOW.out
        rw [hall] at h
        exact LRow.of_own RC.len HM.out h
      have HRR := hide hrr
      have HBW := hide (HBV.out.trans (HBq.out.mono HBV.out.size))
      clear hall hrr
      go_wp2_with fail
      refine (HC2.out _ HBW.out).mono ?_
      rintro _ w6 ⟨eb6, kb6, p6, c6, rfl, k6, b6⟩
      have HB6 := hide (HBW.out.trans (b6.mono HBW.out.size))
      have HR6 := hide (RRow.later HRR.out b6)
      have HT6 := hide (told_rec k6 HL.out HBB.out HM.out)
      clear k6 b6
      go_wp2_with fail
      refine HT6.out.mono ?_
      rintro _ w7 ⟨p7, c7, rfl, o7, b7⟩
      have HB7 := hide (HB6.out.trans (b7.mono HB6.out.size))
      have HR7 := hide (RRow.later HR6.out b7)
      have HE := hide (eqrc_any HR7.out (LRow.of_own RC.len HM.out o7) HM.out)
      clear o7 b7 HT6
      go_wp2_with fail
      refine HE.out.mono ?_
      rintro _ w8 ⟨rfl, b8⟩
      have HB8 := hide (HB7.out.trans (b8.mono HB7.out.size))
      clear b8
      go_wp2
      go_ret
      exact ⟨rfl, HB8.out⟩
set_option maxRecDepth 100000 in
theorem contract (H : Type) (enc : TypeId × Value → H) (W : World) (base : Nat) (args : Array Value) (ds gs : List (DataW H)) (before : List MemPlace)
    (hval : ∀ (j : Nat) t v, Try.f8.params[j]? = some t → args[j]? = some v → Value.okWide Try.prog W .any base t v)
    (hW : DataW.Whole enc Try.prog Try.f8.params.toList Rows.eventJoinsSpec.vars false W args.toList ds gs before) (hsz0 : (DataW.weightsEach Try.prog (Try.f8.params.toList ++ Rows.eventJoinsSpec.plain.varTypes Try.prog) (ds ++ gs)).all (· ≤ reachBytes) = true) :
    Calls Try.prog 8 args W fun e W' => ∃ v, e = .returned v ∧ Rows.eventJoinsSpec.post enc Try.prog Try.f8 false true false false W args v W' := by
  have hW' := hW
  obtain ⟨p, q, hA0, hV, rfl, hfz, hnd⟩ := hW
  have hA : DataW.TrodAll enc Try.prog W 0 (fun _ => true) true Try.f8.params.toList args.toList ds p := hA0
  rw [Try.params8] at hA hval hsz0
  obtain ⟨v0, vs0, d0, ds0, p0, q0, hargs, rfl, rfl, h0, r0⟩ := trodAll_cons hA
  obtain ⟨rfl, rfl, rfl⟩ := trodAll_nil r0
  obtain rfl : args = #[v0] := by cases args; simp_all
  obtain ⟨rfl, rfl⟩ := trodVars_none hV
  obtain ⟨a0, len0, cap0, rfl⟩ := okWide_slice Try.underlying27 (hval 0 27 v0 rfl rfl)
  have k0 := h0
  have lt0 : ∀ x ∈ p0, x.block < W.heap.size := by obtain ⟨m, hm⟩ := k0; exact DataW.trod_lt m _ _ _ hm
  obtain ⟨f0, hf0⟩ := h0
  have hcc0 : (Value.slice a0 len0 cap0).cells.toList = [.slice a0 len0 cap0] := by simp [Value.cells]
  rw [hcc0] at hf0
  obtain ⟨pp0, pc0, es0, ee0, R0, F0, B0, D0⟩ := arg_evs hf0
  simp only [Value.slice.injEq] at ee0
  obtain ⟨rfl, rfl, rfl⟩ := ee0
  have b0 : es0.length * 32 ≤ 140737488351232 := sized_len (bytes := 32) hsz0 (j := 0) rfl rfl Try.underlying27 (by kernel_rfl) D0
  clear hA0
  refine (walk R0 F0 (by omega)).mono fun e W' ⟨he, bel⟩ => ?_
  subst he
  exact ⟨_, rfl, _, _, _, [], _, [], hW', trodAll_mk1 (shut_bool Try.underlying4 _), (trodAll_cons_mk (Below.trod Try.laidOut (by kernel_rfl) (of_decide_eq_true (by kernel_rfl)) k0 bel lt0) trodAll_mk0), rfl, bel.frame _, fun h => by cases h⟩

set_option maxRecDepth 100000 in
theorem lifted (os : Os) (started : os.Started) (H : Type) (enc : TypeId × Value → H) :
    ReturnsInHanded {} Try.checked os 8 .any (Rows.eventJoinsSpec.pre6 enc Try.prog Try.f8 Rows.eventJoinsRow.domain false) (Rows.eventJoinsSpec.post enc Try.prog Try.f8 false true false false) := by
  refine returnsInHanded_of_change_sized (C := Try.checked) Try.ownK started (by kernel_rfl) Try.func8
    (ChangeSpec.witness6 (enc := enc) (C := Try.checked) false ⟨#[], #[.slice none 0 0], []⟩ 8 (by kernel_rfl) (by kernel_rfl) (by kernel_rfl) (by kernel_rfl)) ?_
  intro W base args ds gs before hval hW _ hsz _
  exact contract H enc W base args ds gs before hval hW hsz

set_option maxRecDepth 100000 in
theorem proved : Rows.EventJoinsSaid :=
  OpenClaim.holds_of_wide 8 Try.f8 rfl rfl rfl rfl rfl rfl rfl ⟨rfl, rfl, rfl, rfl, rfl⟩ rfl rfl rfl rfl rfl (by kernel_rfl) Try.func8 (by kernel_rfl)
    (of_decide_eq_true (by kernel_rfl)) (by unfold Func.isWrapper; first | (rw [if_pos (by decide +kernel)]; kernel_rfl) | (rw [if_neg (by decide +kernel)]; exact ⟨rfl, rfl⟩))
    (fun os started H enc _ => lifted os started H enc)

end Go.Proofs.Ytihbdlbnpkmafaa.eventJoins
