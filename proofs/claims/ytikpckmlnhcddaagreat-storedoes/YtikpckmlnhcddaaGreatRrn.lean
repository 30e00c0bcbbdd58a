/-
  The reference: Rename. The conditions: lengths; each pending write is a file's.
-/
import Derived.Test.YtikpckmlnhcddaaGreatRrm
namespace Go.Proofs.YtikpckmlnhcddaaGreat
open Go.RowKit Go.Maps

def renR (n t : Nm) (p : RP) : RP := if p.name = n then { p with name := t } else p
theorem renR_core (n t : Nm) (p : RP) : (renR n t p).core = ren n t p.core := by
  unfold renR ren
  by_cases e : p.name = n
  · simp [e, RP.core]
  · simp [e, RP.core]
theorem renR_b (n t : Nm) (p : RP) : (renR n t p).b = p.b ∧ (renR n t p).bv = p.bv := by
  unfold renR
  split <;> exact ⟨rfl, rfl⟩
theorem offP_off {P : List CP} {n : Nm} (h : ∀ p ∈ P, p.name ≠ n) : offP P n = P := List.filter_eq_self.2 (fun p hp => by simp [h p hp])
theorem offL_off {L : List CF} {n : Nm} (h : n ∉ L.map CF.name) : offL L n = L := List.filter_eq_self.2 (fun f hf => by
  have : f.name ≠ n := fun e => h (List.mem_map.2 ⟨f, hf, e⟩)
  simp [this])

set_option maxRecDepth 100000 in
set_option maxHeartbeats 4000000 in
theorem rrename_may {W : World} {rb : Nat} {R : RS} (h : RRep W rb R) {s : ByteArray} (t : ByteArray) {E : Int} (hE : R.core.may s.data.toList = E) (hE0 : (E == 0) = false) :
    Calls Tryz.prog 37 #[.pointer (some ⟨rb, 0, none⟩), .string s, .string t] W fun e w' => e = .returned (.int .i64 E) ∧ w' = W := by
  have HM := hide (may_calls h s)
  rw [hE] at HM
  have hb : (E != 0) = true := by rw [bne, hE0]; rfl
  clear hE h
  go_enter Tryz.func37, Tryz.ntmps37
  go_wp2_with fail
  refine HM.out.mono ?_
  rintro _ _ ⟨rfl, rfl⟩
  go_wp2
  go_ret
  exact ⟨rfl, rfl⟩
set_option maxRecDepth 100000 in
set_option maxHeartbeats 4000000 in
theorem rrename_empty {W : World} {rb : Nat} {R : RS} (h : RRep W rb R) {s t : ByteArray} (hE : R.core.may s.data.toList = 0) (ht : t.data.toList = []) :
    Calls Tryz.prog 37 #[.pointer (some ⟨rb, 0, none⟩), .string s, .string t] W fun e w' => e = .returned (.int .i64 31) ∧ w' = W := by
  have HM := hide (may_calls h s)
  rw [hE] at HM
  have hn := nil_eq ht
  clear hE h ht
  go_enter Tryz.func37, Tryz.ntmps37
  go_wp2_with fail
  refine HM.out.mono ?_
  rintro _ _ ⟨rfl, rfl⟩
  go_wp2
  go_ret
  exact ⟨rfl, rfl⟩
set_option maxRecDepth 100000 in
set_option maxHeartbeats 4000000 in
theorem rrename_same {W : World} {rb : Nat} {R : RS} (h : RRep W rb R) {s t : ByteArray} (hE : R.core.may s.data.toList = 0) (ht : t.data.toList ≠ []) (hst : t.data.toList = s.data.toList) :
    Calls Tryz.prog 37 #[.pointer (some ⟨rb, 0, none⟩), .string s, .string t] W fun e w' => e = .returned (.int .i64 0) ∧ w' = W := by
  have HM := hide (may_calls h s)
  rw [hE] at HM
  have hn := nil_ne ht
  have he : (t.toList == s.toList) = true := by rw [ByteArray.toList_eq, ByteArray.toList_eq, hst]; simp
  clear hE h ht hst
  go_enter Tryz.func37, Tryz.ntmps37
  go_wp2_with fail
  refine HM.out.mono ?_
  rintro _ _ ⟨rfl, rfl⟩
  go_wp2
  go_ret
  exact ⟨rfl, rfl⟩

set_option maxRecDepth 100000 in
set_option maxHeartbeats 4000000 in
theorem rrename_ok {W : World} {rb : Nat} {R : RS} (h : RRep W rb R) (hok : RefOk R) (hs : Sole R) {s t : ByteArray} (hE : R.core.may s.data.toList = 0) (ht : t.data.toList ≠ []) (hst : t.data.toList ≠ s.data.toList) (hPn : ∀ p ∈ R.core.P, p.name ∈ R.core.L.map CF.name) :
    Calls Tryz.prog 37 #[.pointer (some ⟨rb, 0, none⟩), .string s, .string t] W fun e w' => e = .returned (.int .i64 0) ∧ ∃ R', RRep w' rb R' ∧ RStep W w' rb R R' ∧ R'.core = { R.core with L := insC ⟨t.data.toList, base R.core.L s.data.toList⟩ (offL (offL R.core.L t.data.toList) s.data.toList), P := (offP R.core.P t.data.toList).map (ren s.data.toList t.data.toList) } := by
  have HM := hide (may_calls h s)
  rw [hE] at HM
  obtain ⟨hdn, j, hj⟩ := may_zero hE
  have hn := nil_ne ht
  have hne : (t.toList == s.toList) = false := by rw [ByteArray.toList_eq, ByteArray.toList_eq]; simpa using hst
  have HAT := hide (at_any h (s := t))
  obtain ⟨i0, hI0, hz0, hz1, hz2⟩ := info_parts Tryz.infoFi
  obtain ⟨i1, hJ0, hy0, hy1, hy2⟩ := info_parts Tryz.infoPe
  have H := hide h
  have HOK := hide hok
  have HS := hide hs
  have HST := hide hst
  have HPN := hide hPn
  have HDN := hide hdn
  have HJ := hide hj
  clear hE h hok hs hst hPn hdn hj ht
  go_enter Tryz.func37, Tryz.ntmps37
  go_wp2_with fail
  refine HM.out.mono ?_
  rintro _ W ⟨rfl, rfl⟩
  go_wp2_with fail
  refine HAT.out.mono ?_
  rintro _ W ⟨rfl, rfl⟩
  clear HM HAT
  go_upto_if 28 with fail
  go_cut [] from 14 (fun wd => ∃ R1, Hid (RRep wd rb R1) ∧ Hid (RStep W wd rb R R1) ∧ Hid (R1.core = { R.core with L := offL R.core.L t.data.toList, P := offP R.core.P t.data.toList }))
  case first =>
    cases ha : atL R.L t.data.toList with
    | none =>
      have e2 : atI R.L t.data.toList = -1 := by simp [atI, ha]
      rw [e2]
      go_wp2_with fail
      go_meet
      case rel =>
        refine ⟨R, H, hide (RStep.refl _ _ _), hide ?_⟩
        have hni : t.data.toList ∉ R.core.L.map CF.name := by
          rw [core_names]
          intro hm
          have := atL_isSome.2 hm
          rw [ha] at this; simp at this
        rw [offL_off hni, offP_off (fun p hp e => hni (by rw [← e]; exact HPN.out p hp))]
    | some i =>
      have e2 : atI R.L t.data.toList = (i : Int) := by simp [atI, ha]
      rw [e2]
      have hmay : R.core.may t.data.toList = 0 := by rw [mayR]; unfold mayL; rw [HDN.out, ha]; rfl
      have HR := hide (rremove_ok H.out HOK.out HS.out hmay)
      have hd : decide ((0 : Int) ≤ (i : Int)) = true := decide_eq_true (by omega)
      clear hmay e2 ha
      go_wp2_with fail
      refine HR.out.mono ?_
      rintro _ w1 ⟨rfl, R1, a1, a2, a3⟩
      have A1 := hide a1
      have A2 := hide a2
      have A3 := hide a3
      clear a1 a2 a3 HR
      go_wp2_with fail
      go_meet
      case rel => exact ⟨R1, A1, A2, A3⟩
  case rest =>
    obtain ⟨R1, A1, A2, A3⟩ := hcut
    rename World => wa
    have hL1 : R1.core.L = offL R.core.L t.data.toList := congrArg (fun r => RC.L r) A3.out
    have hP1 : R1.core.P = offP R.core.P t.data.toList := congrArg (fun r => RC.P r) A3.out
    have hs1 : Sole R1 := by
      have := HS.out
      unfold Sole at this ⊢
      rw [← core_names] at this ⊢
      rw [hL1]
      unfold offL
      rw [List.pairwise_map] at this ⊢
      exact this.filter _
    have hj1 : ∃ j1, atL R1.L s.data.toList = some j1 := by
      have : (atL R1.L s.data.toList).isSome = true := by
        rw [atL_isSome, ← core_names, hL1]
        have hm : s.data.toList ∈ R.core.L.map CF.name := by rw [core_names, ← atL_isSome, HJ.out]; rfl
        obtain ⟨f, hf, e⟩ := List.mem_map.1 hm
        refine List.mem_map.2 ⟨f, List.mem_filter.2 ⟨hf, ?_⟩, e⟩
        have : f.name ≠ t.data.toList := by rw [e]; exact fun h => HST.out h.symm
        simpa using this
      exact Option.isSome_iff_exists.1 this
    obtain ⟨j1, hj1⟩ := hj1
    obtain ⟨hjl, hjn⟩ := atL_get hj1
    have hLl : R1.L.length ≤ 4194304 := by
      have h1 : R1.L.length = R1.core.L.length := by simp [RS.core]
      have h2 : R.core.L.length = R.L.length := by simp [RS.core]
      rw [h1, hL1]
      have h3 : (offL R.core.L t.data.toList).length ≤ R.core.L.length := List.length_filter_le _ _
      have := HOK.out.L
      omega
    have hPl : R1.P.length ≤ 2199023255552 := by
      have h1 : R1.P.length = R1.core.P.length := by simp [RS.core]
      have h2 : R.core.P.length = R.P.length := by simp [RS.core]
      rw [h1, hP1]
      have h3 : (offP R.core.P t.data.toList).length ≤ R.core.P.length := List.length_filter_le _ _
      have := HOK.out.P
      omega
    have HA := hide (at_any A1.out (s := s))
    rw [show atI R1.L s.data.toList = (j1 : Int) by simp [atI, hj1]] at HA
    obtain ⟨c0, c1, c2, c3⟩ := A1.out.rcells
    obtain ⟨p, cap, he, h1, h2⟩ := own_form A1.out.lrow
    have hlr := A1.out.lrow
    rw [he] at c0 hlr
    have hone := file_one A1.out.lb
    have HS1 : Hid (Seg wa 2 (.slice p j1 cap) j1 ((R1.L.take j1).flatMap RF.cells)) := by
      have := (Seg.of_own hlr hone (flat_len (c := RF.cells) (n := 2) (fun _ => rfl) R1.L) (by omega : j1 ≤ R1.L.length))
      rw [flat_take (c := RF.cells) (n := 2) (fun _ => rfl)] at this
      exact hide this
    obtain ⟨A, hA, HS2⟩ : ∃ A, (if cap = j1 + 1 then p else Option.map (fun y => y.add ((j1 + 1) * 2)) p) = A ∧ Hid (Seg wa 2 (.slice A (R1.L.length - (j1 + 1)) (cap - (j1 + 1))) (R1.L.length - (j1 + 1)) ((R1.L.drop (j1 + 1)).flatMap RF.cells)) := by
      have := (Seg.of_tail hlr hone (flat_len (c := RF.cells) (n := 2) (fun _ => rfl) R1.L) (by omega : j1 + 1 ≤ R1.L.length))
      rw [flat_drop (c := RF.cells) (n := 2) (fun _ => rfl)] at this
      exact ⟨_, rfl, hide this⟩
    obtain ⟨g, rfl, d0, d1, _, _⟩ := file_cells hlr rfl hjl
    simp only [Option.map_some, add_zero_addr] at hA
    obtain ⟨f, hf⟩ : ∃ f, R1.L[j1]! = f := ⟨_, rfl⟩
    have hfm : f ∈ R1.L := by rw [← hf, getElem!_pos R1.L j1 hjl]; exact List.getElem_mem _
    obtain ⟨pf, cf, hfe, _, _, _, _⟩ := id (A1.out.lb f hfm).1
    rw [hf] at d0 d1 hjn
    rw [hfe] at d1
    unfold strV at d0
    have HK1 : Hid (0 + j1 ≤ maxLen) := by show _ ≤ _; unfold maxLen; omega
    have HK2 : Hid ((0 + j1) * 40 ≤ 140737488355328) := by show _ ≤ _; omega
    have HK3 : Hid (j1 + (R1.L.length - (j1 + 1)) ≤ maxLen) := by show _ ≤ _; unfold maxLen; omega
    have HK4 : Hid ((j1 + (R1.L.length - (j1 + 1))) * 40 ≤ 140737488355328) := by show _ ≤ _; omega
    have HJ1 := hide hj1
    have HF := hide hf
    have HFM := hide hfm
    have HFE := hide hfe
    have HS1' := hide hs1
    have HL1 := hide hL1
    have HP1 := hide hP1
    have HFN := hide hjn
    clear hL1 hP1 hs1 hj1 hf hfm hfe hlr hone he hjn c1 c2 c3 HJ HPN HDN HS HOK H
    go_wp2_with fail
    refine HA.out.mono ?_
    rintro _ wa ⟨rfl, rfl⟩
    go_upto_region 13 with fail
    obtain ⟨wb, hwb⟩ : ∃ wb, wb = wa.alloc (.cells #[.string ⟨f.name.toArray⟩, .slice pf f.b.length cf] 100 (0, 0)) := ⟨_, rfl⟩
    rw [← hwb]
    have HBa : Hid (Below wa.heap.size wa wb) := by rw [hwb]; exact hide (alloc_below _ _)
    have HBo : Hid (wb.heap[wa.heap.size]? = some (.cells #[.string ⟨f.name.toArray⟩, .slice pf f.b.length cf] 100 (0, 0))) := by rw [hwb]; exact hide (heap_alloc_new _ _)
    clear hwb
    obtain ⟨fB, hfB⟩ : ∃ fB, wa.heap.size = fB := ⟨_, rfl⟩
    rw [hfB]
    rw [hfB] at HBo
    have HFB := hide hfB
    have k0 := cell_later HBa.out c0
    have HS1a := hide (HS1.out.below HBa.out)
    have HS2a := hide (HS2.out.below HBa.out)
    have HR1 := hide (A1.out.fresh HBa.out)
    have HA2 : Hid (RStep W wb rb R R1) := hide (A2.out.trans (RStep.fresh HBa.out))
    have HRA := A1
    have HA0 := A2
    clear HS1 HS2 d0 d1 c0 HA hfB A1 A2
    go_wp2_with (at_builtin; refine append_cells _ rfl (.tmp 42) (.tmp 48) 64 rfl wb.heap.size 100 i0 (.agg #[.string ⟨#[]⟩, .slice none 0 0]) 2 40 Tryz.underlying64 hI0 hz0 hz1 hz2 rfl (by decide) (.slice none 0 0) 0 [] rfl (World.ownsRow_nil _ _ _ _) (.slice (some ⟨g, 0, none⟩) j1 cap) j1 _ rfl HS1a.out HK1.out HK2.out (Nat.le_refl _) ?_)
    intro p1 c1 w1 o1 g1
    have B1 : Below wb.heap.size wb w1 := after_append (Below.refl _ wb) g1
    obtain ⟨_, _, he1, hq1, hq2⟩ := own_form o1
    simp only [Value.slice.injEq, true_and] at he1
    obtain ⟨rfl, rfl⟩ := he1
    have k1 := cell_later B1 k0
    have O1 := hide o1
    have HB1 := hide B1
    have HS3 := hide (HS2a.out.below B1)
    have K0 := hide k0
    clear o1 g1 B1 HS1a HS2a k0
    go_wp2_with (at_builtin; refine append_cells _ rfl (.tmp 51) (.tmp 58) 64 rfl wb.heap.size 100 i0 (.agg #[.string ⟨#[]⟩, .slice none 0 0]) 2 40 Tryz.underlying64 hI0 hz0 hz1 hz2 rfl (by decide) (.slice p1 j1 c1) j1 _ rfl O1.out (.slice A (R1.L.length - (j1 + 1)) (cap - (j1 + 1))) (R1.L.length - (j1 + 1)) _ rfl HS3.out HK3.out HK4.out HB1.out.size ?_)
    intro p2 c2 w2 o2 g2
    have B2 : Below wb.heap.size wb w2 := HB1.out.grown g2 HB1.out.size (fun i hi => own_block_base O1.out hi)
    obtain ⟨hd1, hd2⟩ := HR1.out.delL B2 (delR_len hjl) (by unfold delR; rw [List.flatMap_append]; exact o2)
    have k2 : w2.cell? ⟨rb, 0, none⟩ = some (.slice (some ⟨g, 0, none⟩) R1.L.length cap) := cell_later B2 K0.out
    have z1 : w2.frozen? ⟨rb, 0, none⟩ = false := (HR1.out.fresh B2).frozen 0
    obtain ⟨M, hM⟩ : ∃ M, M = j1 + (R1.L.length - (j1 + 1)) := ⟨_, rfl⟩
    rw [← hM] at hd1 hd2 o2
    rw [← hM]
    have HV2 : Hid (∀ i, (Value.slice p2 M c2).ownBlock = some i → wb.heap.size ≤ i) := hide (fun i hi => own_block_base o2 hi)
    have HM1 := hide hM
    have e2 : fB < wb.heap.size := (Array.getElem?_eq_some_iff.1 HBo.out).1
    have e3 : fB ≠ rb := fun e => by
      have := HR1.out.box
      rw [← e, HBo.out] at this
      simp at this
    have b2o : w2.heap[fB]? = some (.cells #[.string ⟨f.name.toArray⟩, .slice pf f.b.length cf] 100 (0, 0)) := below_box B2 HBo.out
    have b3o : (w2.setCell ⟨rb, 0, none⟩ (.slice p2 M c2)).heap[fB]? = some (.cells #[.string ⟨f.name.toArray⟩, .slice pf f.b.length cf] 100 (0, 0)) := (Only.set (F := (· = rb)) w2 rb 0 (.slice p2 M c2) rfl).obj b2o e3
    have HB3 := hide b3o
    have HD1 := hide hd1
    have HD2 := hide hd2
    have HZ2 := hide B2.size
    clear o2 g2 B2 O1 HB1 HS3 k1 b2o b3o hd1 hd2 hM
    go_upto_region 15 with fail
    obtain ⟨w3, hw3⟩ : ∃ w3, w3 = w2.setCell ⟨rb, 0, none⟩ (.slice p2 M c2) := ⟨_, rfl⟩
    rw [← hw3]
    rw [← hw3] at HB3 HD1 HD2
    have hz3 : w3.heap.size = w2.heap.size := by rw [hw3]; simp
    clear hw3 k2 z1
    have q0 : w3.cell? ⟨fB, 0, none⟩ = some (.string ⟨f.name.toArray⟩) := by simp [World.cell?, HB3.out]
    have qz : w3.frozen? ⟨fB, 0, none⟩ = false := box_frozen HB3.out 0
    have hfl : ∀ i, rown rb { R1 with L := delR R1.L j1, lv := .slice p2 M c2 } i → i ≠ fB := by
      rintro i (hi | hi | hi) rfl
      · exact e3 hi
      · have := HV2.out _ hi; omega
      · obtain ⟨_, cur, hc⟩ := own_block_lt HR1.out.prow hi
        rw [HBo.out] at hc
        simp at hc
    have hfc : ∀ i, rcov { R1 with L := delR R1.L j1, lv := .slice p2 M c2 } i → i ≠ fB := by
      intro i hi e
      have hlt : i < wa.heap.size := by
        have hr := HRA.out
        rcases hi with ⟨x, hx, hl, hi⟩ | ⟨x, hx, hl, hi⟩
        · exact (hr.lb x (mem_delR hx)).1.block_lt hl hi
        · exact (hr.pb x hx).1.block_lt hl hi
      rw [HFB.out] at hlt
      omega
    have hset4 : Only (· = fB) w3 (w3.setCell ⟨fB, 0, none⟩ (.string t)) := Only.set _ _ _ _ rfl
    have hr4 := HD1.out.only hset4 (fun i hi => hfl i hi) (fun i hi => hfc i hi)
    have hst3 := HA2.out.trans HD2.out
    have hfW : W.heap.size ≤ fB := by
      have := HA0.out.only.size
      rw [HFB.out] at this
      exact this
    have hst4 : RStep W (w3.setCell ⟨fB, 0, none⟩ (.string t)) rb R { R1 with L := delR R1.L j1, lv := .slice p2 M c2 } := ⟨hst3.only.step hset4 (fun i e => .inr (by subst e; exact hfW)), hst3.own, hst3.cov⟩
    have q1 : w3.cell? ⟨fB, 1, none⟩ = some (.slice pf f.b.length cf) := by simp [World.cell?, HB3.out]
    obtain ⟨R2, hR2⟩ : ∃ R2 : RS, R2 = { R1 with L := delR R1.L j1, lv := .slice p2 M c2 } := ⟨_, rfl⟩
    rw [← hR2] at hr4 hst4 hfl hfc
    have hrowf : Row .u8 (w3.setCell ⟨fB, 0, none⟩ (.string t)) f.bv f.b := by
      have h1 : Row .u8 wb f.bv f.b := (HRA.out.lb f HFM.out).1.below HBa.out
      have h2 : Row .u8 w3 f.bv f.b := h1.only0 (F := rown rb R1) HD2.out.only (fun hl i hi hr => HRA.out.sep i (.inl ⟨f, HFM.out, hl, hi⟩) hr)
      exact h2.only0 hset4 (fun hl i hi e => by
        have := (HRA.out.lb f HFM.out).1.block_lt hl hi
        rw [HFB.out] at this
        omega)
    have hxs : f.b ≠ [] → ∀ i, f.bv.ownBlock = some i → ¬ rown rb R2 i := fun hl i hi hr => by
      have hlt := (HRA.out.lb f HFM.out).1.block_lt hl hi
      rw [hR2] at hr
      rcases hr with e | e | e
      · exact HRA.out.sep i (.inl ⟨f, HFM.out, hl, hi⟩) (.inl e)
      · have := HV2.out i e
        have := HBa.out.size
        omega
      · exact HRA.out.sep i (.inl ⟨f, HFM.out, hl, hi⟩) (.inr (.inr e))
    have hL2 : R2.L.length ≤ 4194304 := by rw [hR2]; simp only; rw [delR_len hjl]; omega
    have hput := rput_any hr4 (x := ⟨t.data.toList, f.b, f.bv⟩) ⟨hrowf, (HRA.out.lb f HFM.out).2⟩ hxs hL2
    have es : strV t.data.toList = .string t := by simp [strV]
    simp only [es, HFE.out] at hput
    have HPUT := hide hput
    have HST4 := hide hst4
    have HR2 := hide hR2
    have hlt4 : (w3.setCell ⟨fB, 0, none⟩ (.string t)).heap.size = w3.heap.size := by simp
    have HZ4 := hide hlt4
    have HXS := hide hxs
    have HW4 : Hid (W.heap.size ≤ (w3.setCell ⟨fB, 0, none⟩ (.string t)).heap.size) := hide hst4.only.size
    clear hfl hfc hset4 hr4 hst3 hfW hst4 hrowf hxs hput es hR2 hlt4 HD1 HD2 HB3 HA2 HV2
    go_wp2_with fail
    refine HPUT.out.mono ?_
    rintro _ w5 ⟨rfl, v5, r5, o5, f5⟩
    have HR5 := hide r5
    have HO5 := hide o5
    have HF5 := hide f5
    have x1 := r5.rcells.2.1
    clear r5 o5 f5 HPUT q0 q1 qz
    obtain ⟨R3, hR3⟩ : ∃ R3 : RS, R3 = { R2 with L := insR ⟨t.data.toList, f.b, .slice pf f.b.length cf⟩ R2.L, lv := v5 } := ⟨_, rfl⟩
    have hx1 : w5.cell? ⟨rb, 1, none⟩ = some R3.pv := by rw [hR3]; exact x1
    have HR3E := hide hR3
    have HR3 : Hid (RRep w5 rb R3) := by rw [hR3]; exact HR5
    have hPe : R3.P = R1.P := by rw [hR3, HR2.out]
    have hP3 : R3.P.length ≤ 2199023255552 := by rw [hPe]; exact hPl
    have HPE := hide hPe
    clear hR3 x1 HR5 hPl hPe
    obtain ⟨pp, pcap, hpe, hp1, hp2⟩ := own_form HR3.out.prow
    rw [hpe] at hx1
    have HPV := hide hpe
    clear hpe
    go_wp2_with fail
    go_loopw [11, 12] (fun lv i wr => ∃ (k : Nat) (q : Option Addr) (cq : Nat), k ≤ R3.P.length ∧ i = .int .i64 (k : Int) ∧ lv = .slice q k cq ∧ k ≤ cq ∧ cq ≤ 9223372036854775807 ∧ Hid (wr.ownsRow w5.heap.size 98 3 (.slice q k cq) k (((R3.P.take k).map (renR s.data.toList t.data.toList)).flatMap RP.cells)) ∧ Hid (Below w5.heap.size w5 wr)) (fun _ i _ => R3.P.length - (intOf i).toNat)
    case atStart => exact ⟨0, none, 0, Nat.zero_le _, rfl, rfl, Nat.le_refl _, by decide, hide (by simpa using World.ownsRow_nil _ _ _ _), hide (Below.refl _ _)⟩
    case round =>
      obtain ⟨k, q, cq, hk, rfl, rfl, hq1, hq2, HR, HB⟩ := hrel
      have c1' := cell_later HB.out hx1
      by_cases hlt : k < R3.P.length
      · have hpr := ownsRow_later HR3.out.prow HB.out
        rw [HPV.out] at hpr
        obtain ⟨gp, rfl, d0, d1, d2⟩ := pend_cells hpr rfl hlt
        obtain ⟨x, hx⟩ : ∃ x, R3.P[k]! = x := ⟨_, rfl⟩
        have hxm : x ∈ R3.P := by rw [← hx, getElem!_pos R3.P k hlt]; exact List.getElem_mem _
        have HT : Hid ((R3.P.take (k + 1)).map (renR s.data.toList t.data.toList) = (R3.P.take k).map (renR s.data.toList t.data.toList) ++ [renR s.data.toList t.data.toList x]) := by
          refine hide ?_
          rw [List.take_succ_eq_append_getElem hlt, List.map_append, ← hx, getElem!_pos R3.P k hlt]; rfl
        rw [hx] at d0 d1 d2
        obtain ⟨px, cx, hxe, _, _, _, _⟩ := id (HR3.out.pb x hxm).1
        rw [hxe] at d2
        have HXE := hide hxe
        unfold strV at d0
        clear hpr hx hxm hxe
        have HK5 : Hid (k + 1 ≤ maxLen) := by show _ ≤ _; unfold maxLen; omega
        have HK6 : Hid ((k + 1) * 48 ≤ 140737488355328) := by show _ ≤ _; omega
        by_cases hq : x.name = s.data.toList
        · have hee : (x.name == s.toList) = true := by rw [ByteArray.toList_eq, hq]; simp
          obtain ⟨O1, hO1⟩ : ∃ O1 : Obj, O1 = .cells #[.string t, .int .i64 x.beg, .slice px x.b.length cx] 98 (0, 0) := ⟨_, rfl⟩
          have YB0 : Below wr.heap.size wr ((wr.alloc O1).alloc O1) := (alloc_below wr O1).trans ((alloc_below _ _).mono (by simp))
          have Y2 := hide (ownsRow_later HR.out YB0)
          have Y6 : Hid (((wr.alloc O1).alloc O1).heap[wr.heap.size + 1]? = some O1) := by
            have := heap_alloc_new (wr.alloc O1) O1
            rw [show (wr.alloc O1).heap.size = wr.heap.size + 1 by simp] at this
            exact hide this
          have YB : Hid (Below w5.heap.size w5 ((wr.alloc O1).alloc O1)) := hide (HB.out.trans (YB0.mono HB.out.size))
          rw [hO1] at Y2 Y6 YB
          clear hO1 YB0
          go_wp2_with (at_builtin; refine append_cells _ rfl (.tmp 89) (.tmp 91) 65 rfl w5.heap.size 98 i1 (.agg #[.string ⟨#[]⟩, .int .i64 0, .slice none 0 0]) 3 48 Tryz.underlying65 hJ0 hy0 hy1 hy2 rfl (by decide) (.slice q k cq) k _ rfl Y2.out (.slice (some ⟨wr.heap.size + 1, 0, none⟩) 1 1) 1 [.string t, .int .i64 x.beg, .slice px x.b.length cx] rfl (Seg.news Y6.out (by intro u hu; simp at hu; rcases hu with rfl | rfl | rfl <;> rfl) rfl (by decide) (by decide)) HK5.out HK6.out YB.out.size ?_)
          intro q5 cq5 w6 o6 g6
          obtain ⟨_, _, he6, hc5, hc6⟩ := own_form o6
          simp only [Value.slice.injEq, true_and] at he6
          obtain ⟨rfl, rfl⟩ := he6
          have Z1 := hide o6
          have Z2 : Hid (Below w5.heap.size w5 w6) := hide (YB.out.grown g6 YB.out.size (fun i hi => own_block_base Y2.out hi))
          clear o6 g6 Y2 Y6 YB HR HB d0 d1 d2 c1'
          go_wp2
          refine ⟨⟨k + 1, q5, cq5, by omega, by go_num, rfl, hc5, hc6, ?_, Z2⟩, by simp [intOf]; omega⟩
          rw [HT.out]
          refine hide ?_
          have := Z1.out
          rw [List.flatMap_append]
          have er : renR s.data.toList t.data.toList x = { x with name := t.data.toList } := by simp [renR, hq]
          rw [er]
          simpa [RP.cells, strV, HXE.out] using this
        · have hee : (x.name == s.toList) = false := by
            rw [ByteArray.toList_eq]
            simpa using hq
          obtain ⟨O1, hO1⟩ : ∃ O1 : Obj, O1 = .cells #[.string ⟨x.name.toArray⟩, .int .i64 x.beg, .slice px x.b.length cx] 98 (0, 0) := ⟨_, rfl⟩
          have YB0 : Below wr.heap.size wr ((wr.alloc O1).alloc O1) := (alloc_below wr O1).trans ((alloc_below _ _).mono (by simp))
          have Y2 := hide (ownsRow_later HR.out YB0)
          have Y6 : Hid (((wr.alloc O1).alloc O1).heap[wr.heap.size + 1]? = some O1) := by
            have := heap_alloc_new (wr.alloc O1) O1
            rw [show (wr.alloc O1).heap.size = wr.heap.size + 1 by simp] at this
            exact hide this
          have YB : Hid (Below w5.heap.size w5 ((wr.alloc O1).alloc O1)) := hide (HB.out.trans (YB0.mono HB.out.size))
          rw [hO1] at Y2 Y6 YB
          clear hO1 YB0
          go_wp2_with (at_builtin; refine append_cells _ rfl (.tmp 89) (.tmp 91) 65 rfl w5.heap.size 98 i1 (.agg #[.string ⟨#[]⟩, .int .i64 0, .slice none 0 0]) 3 48 Tryz.underlying65 hJ0 hy0 hy1 hy2 rfl (by decide) (.slice q k cq) k _ rfl Y2.out (.slice (some ⟨wr.heap.size + 1, 0, none⟩) 1 1) 1 [.string ⟨x.name.toArray⟩, .int .i64 x.beg, .slice px x.b.length cx] rfl (Seg.news Y6.out (by intro u hu; simp at hu; rcases hu with rfl | rfl | rfl <;> rfl) rfl (by decide) (by decide)) HK5.out HK6.out YB.out.size ?_)
          intro q5 cq5 w6 o6 g6
          obtain ⟨_, _, he6, hc5, hc6⟩ := own_form o6
          simp only [Value.slice.injEq, true_and] at he6
          obtain ⟨rfl, rfl⟩ := he6
          have Z1 := hide o6
          have Z2 : Hid (Below w5.heap.size w5 w6) := hide (YB.out.grown g6 YB.out.size (fun i hi => own_block_base Y2.out hi))
          clear o6 g6 Y2 Y6 YB HR HB d0 d1 d2 c1'
          go_wp2
          refine ⟨⟨k + 1, q5, cq5, by omega, by go_num, rfl, hc5, hc6, ?_, Z2⟩, by simp [intOf]; omega⟩
          rw [HT.out]
          refine hide ?_
          have := Z1.out
          rw [List.flatMap_append]
          have er : renR s.data.toList t.data.toList x = x := by simp [renR, hq]
          rw [er]
          simpa [RP.cells, strV, HXE.out] using this
      · obtain rfl : k = R3.P.length := by omega
        have mz : wr.frozen? ⟨rb, 1, none⟩ = false := (HR3.out.fresh HB.out).frozen 1
        go_wp2
        go_ret
        have hrow := HR.out
        rw [List.take_length] at hrow
        have hbase : ∀ i, (Value.slice q R3.P.length cq).ownBlock = some i → w5.heap.size ≤ i := fun i hi => own_block_base hrow hi
        have hmem : ∀ y ∈ R3.P.map (renR s.data.toList t.data.toList), ∃ z ∈ R3.P, y.b = z.b ∧ y.bv = z.bv := fun y hy => by
          obtain ⟨z, hz, rfl⟩ := List.mem_map.1 hy
          exact ⟨z, hz, renR_b _ _ _⟩
        have hst5 : RStep W w5 rb R R3 := by
          have e3 := HR3E.out
          refine ⟨HST4.out.only.step HO5.out HST4.out.own, ?_, ?_⟩
          · rintro i (e | e | e)
            · exact .inl (.inl e)
            · have : v5.ownBlock = some i := by rw [e3] at e; exact e
              exact .inr (Nat.le_trans HW4.out (HF5.out i this))
            · exact HST4.out.own i (.inr (.inr (by rw [e3] at e; exact e)))
          · rintro i (⟨y, hy, hl, hi⟩ | ⟨y, hy, hl, hi⟩)
            · have hy' : y ∈ insR ⟨t.data.toList, f.b, .slice pf f.b.length cf⟩ R2.L := by rw [e3] at hy; exact hy
              rcases mem_insR.1 hy' with rfl | hy'
              · exact HA0.out.cov i (.inl ⟨f, HFM.out, hl, by rw [HFE.out]; exact hi⟩)
              · exact HST4.out.cov i (.inl ⟨y, hy', hl, hi⟩)
            · exact HST4.out.cov i (.inr ⟨y, by rw [e3] at hy; exact hy, hl, hi⟩)
        have hsz5 := hst5.only.size
        refine ⟨rfl, { R3 with P := R3.P.map (renR s.data.toList t.data.toList), pv := .slice q R3.P.length cq }, (HR3.out.fresh HB.out).setP (P := R3.P.map (renR s.data.toList t.data.toList)) (own_base5 (base := w5.heap.size) (by rw [List.length_map]; exact hrow) (Nat.zero_le _)) (fun y hy => ?_) (fun y hy hl i hi => ?_) (fun i hi e => ?_), hst5.trans ⟨(Only.fresh HB.out _).trans (Only.set _ _ _ _ (.inl rfl)), fun i hi => ?_, fun i hi => ?_⟩, ?_⟩
        · obtain ⟨z, hz, e1, e2⟩ := hmem y hy
          rw [e1, e2]
          exact ⟨(HR3.out.pb z hz).1.below HB.out, (HR3.out.pb z hz).2⟩
        · obtain ⟨z, hz, e1, e2⟩ := hmem y hy
          rw [e1] at hl
          rw [e2] at hi
          refine ⟨HR3.out.sep i (.inr ⟨z, hz, hl, hi⟩), fun e => ?_⟩
          have h1 := (HR3.out.pb z hz).1.block_lt hl hi
          have h2 := hbase i e
          omega
        · have h1 := HR3.out.rcov_lt hi
          have h2 := hbase i e
          omega
        · rcases hi with e | e | e
          · exact .inl (.inl e)
          · exact .inl (.inr (.inl e))
          · exact .inr (hbase i e)
        · rcases hi with hi | ⟨y, hy, hl, hi⟩
          · exact .inl (.inl hi)
          · obtain ⟨z, hz, e1, e2⟩ := hmem y hy
            exact .inl (.inr ⟨z, hz, by rw [← e1]; exact hl, by rw [← e2]; exact hi⟩)
        · have hb : f.b = base R.core.L s.data.toList := by
            have h1 := HS1'.out.baseE hjl
            rw [HF.out, HFN.out, HL1.out, base_offL, upd_off _ _ (fun e => HST.out e.symm)] at h1
            exact h1.symm
          have hLc : (insR ⟨t.data.toList, f.b, .slice pf f.b.length cf⟩ R2.L).map RF.core = insC ⟨t.data.toList, base R.core.L s.data.toList⟩ (offL (offL R.core.L t.data.toList) s.data.toList) := by
            rw [insR_core, HR2.out]
            simp only
            rw [delR_core HS1'.out HJ1.out]
            have : R1.L.map RF.core = R1.core.L := rfl
            rw [this, HL1.out, ← hb]
            rfl
          have hPc : (R3.P.map (renR s.data.toList t.data.toList)).map RP.core = (offP R.core.P t.data.toList).map (ren s.data.toList t.data.toList) := by
            rw [HPE.out, ← HP1.out]
            show _ = (R1.P.map RP.core).map _
            rw [List.map_map, List.map_map]
            refine List.map_congr_left (fun y _ => ?_)
            exact renR_core _ _ y
          have hm : R1.most = R.most := congrArg (fun r => RC.most r) A3.out
          have hdw : R1.down = R.down := congrArg (fun r => RC.down r) A3.out
          show RC.mk _ _ _ _ = _
          simp only
          rw [hPc, HR3E.out]
          simp only
          rw [hLc, HR2.out]
          simp only
          rw [hm, hdw]
          rfl
end Go.Proofs.YtikpckmlnhcddaaGreat
