/-
  The reference: put. The conditions: lengths.
-/
import Derived.Test.YtikpckmlnhcddaaGreatRpt
namespace Go.Proofs.YtikpckmlnhcddaaGreat
open Go.RowKit Go.Maps

theorem less_before : ∀ a b : List UInt8, Op.bytesLess a b = bytesBefore a b
  | [], [] => rfl
  | _ :: _, [] => rfl
  | [], _ :: _ => rfl
  | x :: a, y :: b => by
    simp only [Op.bytesLess, bytesBefore, less_before a b]

theorem below_drewN {n : Nat} {A B : World} (h : Below n A B) (k : Nat) : Below n A (B.drewN k) := ⟨h.os, h.tape, h.output, h.size, h.block⟩

theorem below_alloc2 {X w1 : World} (g : X.grownBy w1 (Value.slice none 0 0).ownBlock) : Below X.heap.size X w1 := (Below.refl _ X).grown g (Nat.le_refl _) (by intro k hk; simp [Value.ownBlock] at hk)
theorem after_append {w X w1 : World} (hX : Below w.heap.size w X) (g : X.grownBy w1 (Value.slice none 0 0).ownBlock) : Below w.heap.size w w1 := hX.grown g hX.size (by intro k hk; simp [Value.ownBlock] at hk)

set_option maxRecDepth 100000 in
set_option maxHeartbeats 4000000 in
theorem rput_any {W : World} {rb : Nat} {R : RS} (h : RRep W rb R) {x : RF} (hx : Row .u8 W x.bv x.b ∧ U8 x.b) (hxs : x.b ≠ [] → ∀ i, x.bv.ownBlock = some i → ¬ rown rb R i) (hL : R.L.length ≤ 4194304) :
    Calls Tryz.prog 63 #[.pointer (some ⟨rb, 0, none⟩), .agg #[strV x.name, x.bv]] W fun e w' => e = .returned (.tuple #[]) ∧ ∃ v, RRep w' rb { R with L := insR x R.L, lv := v } ∧ Only (rown rb R) W w' ∧ (∀ i, v.ownBlock = some i → W.heap.size ≤ i) := by
  obtain ⟨i0, hI0, hz0, hz1, hz2⟩ := info_parts Tryz.infoFi
  obtain ⟨c0, c1, c2, c3⟩ := h.rcells
  obtain ⟨p, cap, he, h1, h2⟩ := own_form h.lrow
  rw [he] at c0
  obtain ⟨xp, xc, hxe, _⟩ := id hx.1
  have H := hide h
  have HE := hide he
  have HX := hide hx
  have HXS := hide hxs
  have HXE := hide hxe
  clear h he c1 c2 c3 hx hxs
  unfold strV
  rw [hxe]
  clear hxe
  go_enter Tryz.func63, Tryz.ntmps63
  go_upto_block 0 with fail
  obtain ⟨W1, hW1⟩ : ∃ W1, W1 = W.alloc (.cells #[.string ⟨x.name.toArray⟩, .slice xp x.b.length xc] 100 (0, 0)) := ⟨_, rfl⟩
  rw [← hW1]
  have HB1 : Hid (Below W.heap.size W W1) := by rw [hW1]; exact hide (alloc_below _ _)
  have HF1 : Hid (W1.heap[W.heap.size]? = some (.cells #[.string ⟨x.name.toArray⟩, .slice xp x.b.length xc] 100 (0, 0))) := by rw [hW1]; exact hide (heap_alloc_new _ _)
  have HS1 : Hid (W1.heap.size = W.heap.size + 1) := by rw [hW1]; exact hide (by simp)
  clear hW1
  have k0 := cell_later HB1.out c0
  clear c0
  obtain ⟨fB, hfB⟩ : ∃ fB, W.heap.size = fB := ⟨_, rfl⟩
  rw [hfB]
  rw [hfB] at HF1
  have e0 : W1.cell? ⟨fB, 0, none⟩ = some (.string ⟨x.name.toArray⟩) := by simp [World.cell?, HF1.out]
  go_cut [4] from 6 (fun s4 wc => ∃ k : Nat, k ≤ R.L.length ∧ s4 = .int .i64 (k : Int) ∧ Hid (Below W1.heap.size W1 wc) ∧ Hid (∀ j, j < k → bytesBefore (R.L[j]!).name x.name = true) ∧ Hid (k < R.L.length → bytesBefore (R.L[k]!).name x.name = false))
  case first =>
    go_wp2_with fail
    go_loopw [4] (fun i wr => ∃ k : Nat, k ≤ R.L.length ∧ i = .int .i64 (k : Int) ∧ Hid (Below W1.heap.size W1 wr) ∧ Hid (∀ j, j < k → bytesBefore (R.L[j]!).name x.name = true)) (fun i _ => R.L.length - (intOf i).toNat)
    case atStart => exact ⟨0, Nat.zero_le _, rfl, hide (Below.refl _ _), hide (fun j hj => by omega)⟩
    case round =>
      obtain ⟨k, hk, rfl, HB, HN⟩ := hrel
      by_cases hlt : k < R.L.length
      · have hlr := ownsRow_later H.out.lrow (HB1.out.trans (HB.out.mono (by have := HB1.out.size; omega)))
        rw [HE.out] at hlr
        obtain ⟨g, rfl, d0, _, _, _⟩ := file_cells hlr rfl hlt
        obtain ⟨f, hf⟩ : ∃ f, R.L[k]! = f := ⟨_, rfl⟩
        rw [hf] at d0
        unfold strV at d0
        have HF := hide hf
        clear hlr hf
        have b0 : wr.cell? ⟨rb, 0, none⟩ = some (.slice (some ⟨g, 0, none⟩) R.L.length cap) := cell_later HB.out k0
        have b1 : wr.cell? ⟨g, k * 2, none⟩ = some (.string ⟨f.name.toArray⟩) := d0
        have b2 : wr.cell? ⟨fB, 0, none⟩ = some (.string ⟨x.name.toArray⟩) := cell_later HB.out e0
        have hdl : decide ((k : Int) < (R.L.length : Int)) = true := decide_eq_true (by omega)
        clear d0
        cases hq : Op.bytesLess f.name x.name with
        | true =>
          go_wp2_with fail
          go_big_quiet (fail)
          go_wp2
          refine ⟨⟨k + 1, by omega, by go_num, hide (below_drewN HB.out _), hide (fun j hj => ?_)⟩, by simp [intOf]; omega⟩
          by_cases hjk : j = k
          · subst hjk; rw [HF.out, ← less_before]; exact hq
          · exact HN.out j (by omega)
        | false =>
          go_wp2_with fail
          go_big_quiet (fail)
          go_wp2
          go_meet
          case rel => exact ⟨k, hk, rfl, hide (below_drewN HB.out _), HN, hide (fun _ => by rw [HF.out, ← less_before]; exact hq)⟩
      · have b0 : wr.cell? ⟨rb, 0, none⟩ = some (.slice p R.L.length cap) := cell_later HB.out k0
        have hdn : decide (k < R.L.length) = false := decide_eq_false hlt
        have HLT := hide hlt
        clear hlt
        go_wp2_with fail
        go_big_quiet (fail)
        go_wp2
        go_meet
        case rel => exact ⟨k, hk, rfl, hide (below_drewN HB.out _), HN, hide (fun h => absurd h HLT.out)⟩
  case rest =>
    obtain ⟨k, hk, rfl, HB, HN, HM⟩ := hcut
    rename World => wa
    have hBW : Below W.heap.size W wa := HB1.out.trans (HB.out.mono (by have := HB1.out.size; omega))
    have HBW := hide hBW
    have hlr := ownsRow_later H.out.lrow hBW
    rw [HE.out] at hlr
    have HLR := hide hlr
    have hone := file_one H.out.lb
    have HO1 := hide hone
    have k0' := cell_later HB.out k0
    have HFC : Hid (wa.heap[fB]? = some (.cells #[.string ⟨x.name.toArray⟩, .slice xp x.b.length xc] 100 (0, 0))) := hide (below_box HB.out HF1.out)
    have hsz := hBW.size
    clear hBW hlr hone k0 e0
    have HSEG : Hid (∀ X, Below wa.heap.size wa X → Seg X 2 (.slice p k cap) k ((R.L.take k).flatMap RF.cells)) := by
      refine hide (fun X hX => ?_)
      have := (Seg.of_own (ownsRow_later HLR.out hX) HO1.out (flat_len (c := RF.cells) (n := 2) (fun _ => rfl) R.L) hk)
      rw [flat_take (c := RF.cells) (n := 2) (fun _ => rfl)] at this
      exact this
    have e0 : wa.cell? ⟨fB, 0, none⟩ = some (.string ⟨x.name.toArray⟩) := by simp [World.cell?, HFC.out]
    have e1 : wa.cell? ⟨fB, 1, none⟩ = some (.slice xp x.b.length xc) := by simp [World.cell?, HFC.out]
    have q1 : rb < wa.heap.size := Nat.lt_of_lt_of_le (H.out.rown_lt (.inl rfl)) hsz
    have q2 : fB < wa.heap.size := (Array.getElem?_eq_some_iff.1 HFC.out).1
    have q3 : (k : Int) ≤ (cap : Int) := by omega
    have HK1 : Hid (0 + k ≤ maxLen) := by show _ ≤ _; unfold maxLen; omega
    have HK2 : Hid ((0 + k) * 40 ≤ 140737488355328) := by show _ ≤ _; omega
    have HK3 : Hid (k + 1 ≤ maxLen) := by show _ ≤ _; unfold maxLen; omega
    have HK4 : Hid ((k + 1) * 40 ≤ 140737488355328) := by show _ ≤ _; omega
    have HTW : Hid (∀ u ∈ (#[.string ⟨x.name.toArray⟩, .slice xp x.b.length xc] : Array Value).toList, u.oneCell' = true) := hide (by intro u hu; simp at hu; rcases hu with rfl | rfl <;> rfl)
    have HSZ := hide hsz
    clear hsz
    go_upto_region 5 with fail
    go_cut [5] from 6 (fun s5 wd => ∃ p2 c2, s5 = .slice p2 (k + 1) c2 ∧ k + 1 ≤ c2 ∧ c2 ≤ 9223372036854775807 ∧ Hid (wd.ownsRow wa.heap.size 100 2 (.slice p2 (k + 1) c2) (k + 1) ((R.L.take k ++ [x]).flatMap RF.cells)) ∧ Hid (Below wa.heap.size wa wd))
    case first =>
      go_region_law (first
        | (refine step_append_cells rfl (.tmp 28) (.tmp 34) 64 rfl wa.heap.size 100 i0 (.agg #[.string ⟨#[]⟩, .slice none 0 0]) 2 40 Tryz.underlying64 hI0 hz0 hz1 hz2 rfl (by decide) (.slice none 0 0) 0 [] rfl (World.ownsRow_nil _ _ _ _) (.slice p k cap) k ((R.L.take k).flatMap RF.cells) rfl (HSEG.out _ (by first | exact (Below.refl _ wa).drew | exact ((Below.refl _ wa).drew).alloc (Nat.le_refl _) _)) HK1.out HK2.out (by first | exact Nat.le_refl _ | simp) ?_; intro p1 c1 w1 o1 g1; have B1 : Below wa.heap.size wa w1 := after_append (by first | exact (Below.refl _ wa).drew | exact ((Below.refl _ wa).drew).alloc (Nat.le_refl _) _) g1; have r0 := cell_later B1 e0; have r1 := cell_later B1 e1; have r2 : fB < w1.heap.size := Nat.lt_of_lt_of_le q2 B1.size; have O1 : Hid (w1.ownsRow wa.heap.size 100 2 (.slice p1 k c1) k ((R.L.take k).flatMap RF.cells)) := by { rw [Nat.zero_add, List.nil_append] at o1; exact hide o1 }; have G1 := hide g1; have HB1' := hide B1; clear o1 g1 B1)
        | (refine step_append_cells rfl (.tmp 35) (.tmp 37) 64 rfl wa.heap.size 100 i0 (.agg #[.string ⟨#[]⟩, .slice none 0 0]) 2 40 Tryz.underlying64 hI0 hz0 hz1 hz2 rfl (by decide) (.slice p1 k c1) k ((R.L.take k).flatMap RF.cells) rfl (by first | exact O1.out | exact ownsRow_later O1.out (alloc_below _ _)) _ 1 [.string ⟨x.name.toArray⟩, .slice xp x.b.length xc] rfl (by first | exact Seg.news (heap_alloc_new _ _) HTW.out rfl (by decide) (by decide) | exact Seg.news (below_box (below_alloc2 G1.out) (heap_alloc_new _ _)) HTW.out rfl (by decide) (by decide)) HK3.out HK4.out (by first | exact HB1'.out.size | exact Nat.le_trans HB1'.out.size (alloc_below _ _).size) ?_; intro p2 c2 w2 o2 g2))
      all_goals
        go_wp2_with fail
        go_meet
        case rel =>
          obtain ⟨p3, c3, he3, hc3, hc4⟩ := own_form o2
          simp only [Value.slice.injEq, true_and] at he3
          obtain ⟨rfl, rfl⟩ := he3
          refine ⟨p2, c2, rfl, hc3, hc4, ?_, ?_⟩
          · rw [List.flatMap_append]
            refine hide ?_
            have : [x].flatMap RF.cells = [.string ⟨x.name.toArray⟩, .slice xp x.b.length xc] := by simp [RF.cells, strV, HXE.out]
            rw [this]
            exact o2
          · first
              | exact hide (HB1'.out.grown g2 HB1'.out.size (fun i hi => own_block_base O1.out hi))
              | exact hide ((HB1'.out.alloc HB1'.out.size _).grown g2 (Nat.le_trans HB1'.out.size (alloc_below _ _).size) (fun i hi => own_block_base O1.out hi))
    case rest =>
      obtain ⟨p2, c2, rfl, hc1, hc2, HO2, HB2⟩ := hcut
      rename World => wd
      have k2 := cell_later HB2.out k0'
      have HBD : Hid (Below W.heap.size W wd) := hide (HBW.out.trans (HB2.out.mono HSZ.out))
      have f2 : wd.frozen? ⟨rb, 0, none⟩ = false := (H.out.fresh HBD.out).frozen 0
      obtain ⟨A, hA, HSG⟩ : ∃ A, (if cap = k then p else Option.map (fun y => y.add (k * 2)) p) = A ∧ Hid (Seg wd 2 (.slice A (R.L.length - k) (cap - k)) (R.L.length - k) ((R.L.drop k).flatMap RF.cells)) := by
        have := (Seg.of_tail (ownsRow_later HLR.out HB2.out) HO1.out (flat_len (c := RF.cells) (n := 2) (fun _ => rfl) R.L) hk)
        rw [flat_drop (c := RF.cells) (n := 2) (fun _ => rfl)] at this
        exact ⟨_, rfl, hide this⟩
      have HL1 : Hid (k + 1 + (R.L.length - k) ≤ maxLen) := by show _ ≤ _; unfold maxLen; omega
      have HL2 : Hid ((k + 1 + (R.L.length - k)) * 40 ≤ 140737488355328) := by show _ ≤ _; omega
      have K0 := hide k0'
      clear HB HB1 HF1 HS1 HFC HSEG e0 e1 q1 q2 k0' HK1 HK2 HK3 HK4 HTW HSZ
      go_wp2_with (at_builtin; refine append_cells _ rfl (.tmp 40) (.tmp 46) 64 rfl wa.heap.size 100 i0 (.agg #[.string ⟨#[]⟩, .slice none 0 0]) 2 40 Tryz.underlying64 hI0 hz0 hz1 hz2 rfl (by decide) (.slice p2 (k + 1) c2) (k + 1) _ rfl HO2.out (.slice A (R.L.length - k) (cap - k)) (R.L.length - k) _ rfl HSG.out HL1.out HL2.out HB2.out.size ?_)
      intro p3 c3 w3 o3 g3
      have B3 : Below wa.heap.size wa w3 := HB2.out.grown g3 HB2.out.size (fun i hi => own_block_base HO2.out hi)
      have B4 : Below W.heap.size W w3 := HBW.out.trans (B3.mono HBW.out.size)
      have f3 : w3.frozen? ⟨rb, 0, none⟩ = false := (H.out.fresh B4).frozen 0
      have k3 := cell_later B3 (show wa.cell? ⟨rb, 0, none⟩ = some (.slice p R.L.length cap) from K0.out)
      have O3 := hide o3
      have HB4 := hide B4
      clear o3 g3 B3 B4 HB2 HO2 HSG HBD k2 f2
      go_wp2
      go_end0
      refine ⟨rfl, .slice p3 (k + 1 + (R.L.length - k)) c3, ?_, ?_, ?_⟩
      · have hin : insR x R.L = R.L.take k ++ x :: R.L.drop k := insR_at hk HN.out HM.out
        have hlen : (insR x R.L).length = k + 1 + (R.L.length - k) := by rw [hin]; simp; omega
        have hbase : ∀ i, (Value.slice p3 (k + 1 + (R.L.length - k)) c3).ownBlock = some i → wa.heap.size ≤ i := fun i hi => own_block_base O3.out hi
        refine (H.out.fresh HB4.out).setL (own_base5 (base := wa.heap.size) ?_ (Nat.zero_le _)) ?_ ?_ ?_
        · rw [hlen, hin]
          have := O3.out
          simpa using this
        · intro f hf
          rcases mem_insR.1 hf with rfl | hf
          · exact ⟨HX.out.1.below HB4.out, HX.out.2⟩
          · exact ⟨(H.out.lb f hf).1.below HB4.out, (H.out.lb f hf).2⟩
        · intro f hf hl i hi
          rcases mem_insR.1 hf with rfl | hf
          · refine ⟨HXS.out hl i hi, fun e => ?_⟩
            have h1 := HX.out.1.block_lt hl hi
            have h2 := hbase i e
            have h3 := HBW.out.size
            omega
          · refine ⟨H.out.sep i (.inl ⟨f, hf, hl, hi⟩), fun e => ?_⟩
            have h1 := (H.out.lb f hf).1.block_lt hl hi
            have h2 := hbase i e
            have h3 := HBW.out.size
            omega
        · intro i hi e
          have h1 := H.out.rcov_lt hi
          have h2 := hbase i e
          have h3 := HBW.out.size
          omega
      · exact (Only.fresh HB4.out _).trans (Only.set _ _ _ _ (.inl rfl))
      · intro i hi
        exact Nat.le_trans HBW.out.size (own_block_base O3.out hi)
end Go.Proofs.YtikpckmlnhcddaaGreat
