/-
  The reference's Turns. The conditions: lengths.
-/
import Derived.Test.YtifldnpccgbnkaaGreatRtu
import Derived.Test.YtifldnpccgbnkaaGreatGcl
import Derived.Deep.RegionLaw
import Derived.BigQuiet
namespace Go.Proofs.YtifldnpccgbnkaaGreat
open Go.RowKit Go.Shelf

theorem below_drewNR {n : Nat} {A B : World} (h : Below n A B) (k : Nat) : Below n A (B.drewN k) := ⟨h.os, h.tape, h.output, h.size, h.block⟩
theorem own_cellR {W : World} {base n cap k : Nat} {e : TypeId} {p : Option Addr} {xs : List Value} (h : W.ownsRow base e 1 (.slice p n cap) n xs) (hk : k < n) : ∃ g, p = some ⟨g, 0, none⟩ ∧ W.cell? ⟨g, k, none⟩ = some (xs.getD k undef) := by
  rcases h.2 with ⟨_, h0⟩ | ⟨g, cap', cur, he, hb, hg, hn, hcm, hcur, htk⟩
  · omega
  · simp only [Value.slice.injEq, true_and] at he
    obtain ⟨rfl, rfl⟩ := he
    refine ⟨g, rfl, ?_⟩
    have hl : xs.length = n := by have := h.1; omega
    rw [h.cellAt k (by omega)]
    simp [List.getD, List.getElem?_eq_getElem (show k < xs.length by omega)]
set_option maxRecDepth 100000 in
set_option maxHeartbeats 8000000 in
theorem rturns_any {W : World} {p : Option Addr} {cap n t N : Nat} {xs : List SV} (hx : LL W p cap xs) (hn : xs.length = n) (ht : t < n) (hN : Stop (xs.map SV.rs) t N) (hb : n ≤ 1048576) (hNb : N * 16 ≤ 140737488355328) :
    Calls Tryz.prog 49 #[.int .i64 (t : Int), .slice p n cap] W fun e w' => ∃ p1 c1 p2 c2, e = .returned (.tuple #[.slice p1 N c1, .int .i64 ((whoC n t N : Nat) : Int), .slice p2 n c2]) ∧ w'.ownsRow W.heap.size 71 2 (.slice p1 N c1) N ((takenC (xs.map SV.rs) t N).flatMap RC.cells) ∧ w'.ownsRow W.heap.size 3 1 (.slice p2 n c2) n ((countsC n t N).map (Value.int .i64)) ∧ Below W.heap.size W w' := by
  obtain ⟨i0, hI0, hz0, hz1, hz2⟩ := info_parts Tryz.infoRec
  obtain ⟨k0, hK0, hy0, hy1, hy2⟩ := info_parts Tryz.infoIntR
  have i3 := hx.row.le
  have i4 := hx.row.top
  rw [hn] at i3
  have HX := hide hx
  have HN := hide hN
  have HNN := hide hn
  have hml : (xs.map SV.rs).length = n := by rw [List.length_map]; exact hn
  have HML := hide hml
  clear hx hN hn hml
  go_enter Tryz.func49, Tryz.ntmps49
  go_wp2_with fail
  go_loopw [8, 9] (fun s i wq => ∃ (k : Nat) (p2 : Option Addr) (c2 : Nat), k ≤ n ∧ i = .int .i64 (k : Int) ∧ s = .slice p2 k c2 ∧ Hid (wq.ownsRow W.heap.size 3 1 (.slice p2 k c2) k ((List.replicate k (0 : Int)).map (Value.int .i64))) ∧ Hid (Below W.heap.size W wq)) (fun _ i _ => n - (intOf i).toNat)
  case atStart => exact ⟨0, none, 0, Nat.zero_le _, rfl, rfl, hide (World.ownsRow_nil _ _ _ _), hide (Below.refl _ _)⟩
  case round =>
    obtain ⟨k, p2, c2, hk, rfl, rfl, HOW, HBq⟩ := hrel
    rename World => wq
    by_cases hlt : k < n
    · have hab := alloc_below wq (.cells #[.int .i64 0] 3 (0, 0))
      have HSG : Hid (Seg (wq.alloc (.cells #[.int .i64 0] 3 (0, 0))) 1 (.slice (some ⟨wq.heap.size, 0, none⟩) 1 1) 1 [.int .i64 0]) := hide (Seg.news (heap_alloc_new wq _) (by simp [Value.oneCell']) rfl (Nat.le_refl _) (by decide))
      have HRW := hide (ownsRow_later HOW.out hab)
      have HAB := hide hab
      have HK1 : Hid (k + 1 ≤ maxLen) := by show _ ≤ _; unfold maxLen; omega
      have HK2 : Hid ((k + 1) * 8 ≤ 140737488355328) := by show _ ≤ _; omega
      have HBS : Hid (W.heap.size ≤ (wq.alloc (.cells #[.int .i64 0] 3 (0, 0))).heap.size) := hide (Nat.le_trans HBq.out.size hab.size)
      clear hab
      go_wp2_with (at_builtin; refine append_cells _ rfl (.tmp 16) (.tmp 17) 88 rfl W.heap.size 3 k0 (.int .i64 0) 1 8 Tryz.underlying88 hK0 hy0 hy1 hy2 rfl (by decide) (.slice p2 k c2) k _ rfl HRW.out (.slice (some ⟨wq.heap.size, 0, none⟩) 1 1) 1 _ rfl HSG.out HK1.out HK2.out HBS.out ?_)
      intro p' c' w5 hown hgrow
      have HB5 : Hid (Below W.heap.size W w5) := hide ((HBq.out.trans (HAB.out.mono HBq.out.size)).grown hgrow (Nat.le_trans HBq.out.size HAB.out.size) (fun i hi => own_block_base HRW.out hi))
      have HO5 : Hid (w5.ownsRow W.heap.size 3 1 (.slice p' (k + 1) c') (k + 1) ((List.replicate (k + 1) (0 : Int)).map (Value.int .i64))) := by
        refine hide ?_
        rw [List.replicate_succ', List.map_append, List.map_replicate]
        exact hown
      clear hown hgrow
      go_wp2
      exact ⟨⟨k + 1, p', c', by omega, by first | rfl | go_num, rfl, HO5, HB5⟩, by simp [intOf]; omega⟩
    · obtain rfl : k = n := by omega
      rw [← countsC_zero k t] at HOW
      go_wp2_with fail
      go_loopw [0, 7] (fun i s wr => ∃ (j : Nat) (p1 : Option Addr) (c1 : Nat), j ≤ N ∧ i = .int .i64 ((whoC k t j : Nat) : Int) ∧ s = .slice p1 j c1 ∧ Hid (wr.ownsRow W.heap.size 71 2 (.slice p1 j c1) j ((takenC (xs.map SV.rs) t j).flatMap RC.cells)) ∧ Hid (wr.ownsRow W.heap.size 3 1 (.slice p2 k c2) k ((countsC k t j).map (Value.int .i64))) ∧ Hid (Below W.heap.size W wr)) (fun _ s _ => match s with | .slice _ j _ => N - j | _ => 0)
      case atStart => exact ⟨0, none, 0, Nat.zero_le _, by rw [who_zero ht], rfl, hide (World.ownsRow_nil _ _ _ _), HOW, HBq⟩
      case round =>
        obtain ⟨j, p1, c1, hj, rfl, rfl, HT, HC, HBr⟩ := hrel
        rename World => wr
        obtain ⟨i, hi⟩ : ∃ i, whoC k t j = i := ⟨_, rfl⟩
        have hin : i < k := by rw [← hi]; exact who_lt ht
        have hin2 : i < xs.length := by rw [HNN.out]; exact hin
        have hll := HX.out.later HBr.out
        obtain ⟨g, o, rfl, hc⟩ := hll.at hin2
        have hxm : xs[i]! ∈ xs := by rw [getElem!_pos xs i hin2]; exact List.getElem_mem _
        have hrow := hll.ok _ hxm
        have hrec : recAt (xs.map SV.rs) t j = (xs[i]!).rs[j / k]! := by
          rw [recAt_map (by rw [HNN.out, hi]; exact hin), HNN.out, hi]
        have hla := lenAt_map hin2
        obtain ⟨x, hxx⟩ : ∃ x, xs[i]! = x := ⟨_, rfl⟩
        rw [hxx] at hc hrow hrec hla
        obtain ⟨rs, xp, xc⟩ := x
        simp only at hc hrec hla
        have hrow2 : RRow wr xp xc rs := hrow
        have hrl := hrow2.le
        have hrt := hrow2.top
        obtain ⟨g2, rfl, hcc⟩ := own_cellR HC.out hin
        have hct := count_who (N := j) ht
        rw [hi] at hct
        obtain ⟨ct, hctd⟩ : ∃ ct, j / k = ct := ⟨_, rfl⟩
        have hcc2 : wr.cell? ⟨g2, i, none⟩ = some (.int .i64 (ct : Int)) := by
          rw [hcc, List.getD_eq_getElem?_getD, List.getElem?_map, List.getElem?_eq_getElem (by rw [countsC_len]; exact hin)]
          simp [countsC, hct, hctd]
        rw [hctd] at hct hrec
        have hctj : ct ≤ j := by rw [← hctd]; exact Nat.div_le_self _ _
        have hjb : j ≤ 8796093022208 := by omega
        have HWN : Hid (whoC k t (j + 1) = (i + 1) % k) := hide (by rw [who_next, hi])
        have HLG : Hid (LongC (xs.map SV.rs) t j ↔ ct < rs.length) := by
          refine hide ?_
          unfold LongC
          rw [HML.out, hi, hla, hctd]
        have HCN : Hid ((countsC k t j).set i ((ct : Int) + 1) = countsC k t (j + 1)) := by
          have := countsC_next (j := j) ht
          rw [hi, hct] at this
          exact hide this
        have q1 : decide ((i : Int) ≥ 0) = true := decide_eq_true (by omega)
        have q2 : decide ((i : Int) < (k : Int)) = true := decide_eq_true (by omega)
        have q3 : decide (i < k) = true := decide_eq_true hin
        rw [hi]
        have HI := hide hi
        clear hi hcc hct hctd hxm hrow hla hxx hll
        by_cases hlong : ct < rs.length
        · have hjN : j < N := by
            refine Nat.lt_of_le_of_ne hj (fun e => ?_)
            have h := HN.out.ends
            rw [← e] at h
            exact h (HLG.out.2 hlong)
          have q4 : decide ((ct : Int) < (rs.length : Int)) = true := decide_eq_true (by omega)
          have q5 : decide (ct < rs.length) = true := decide_eq_true hlong
          go_wp2_with fail
          go_big_quiet (fail)
          go_wp2_with fail
          obtain ⟨Y, hY⟩ : ∃ Y, Y = wr.drewN nq := ⟨_, rfl⟩
          have hWY : Below wr.heap.size wr Y := by rw [hY]; exact below_drewNR (Below.refl _ wr) _
          rw [← hY]
          clear hY
          obtain ⟨r, hr⟩ : ∃ r, rs[ct]! = r := ⟨_, rfl⟩
          obtain ⟨g3, o3, rfl, d0, d1⟩ := (RRow.later hrow2 hWY).at hlong hr
          have HTN : Hid (takenC (xs.map SV.rs) t (j + 1) = takenC (xs.map SV.rs) t j ++ [r]) := hide (by rw [taken_next, hrec, hr])
          obtain ⟨ky, vl⟩ := r
          simp only at d0 d1
          have hc := cell_later hWY hc
          have hcc2 := cell_later hWY hcc2
          have HTY := hide (ownsRow_later HT.out hWY)
          have HCY := hide (ownsRow_later HC.out hWY)
          have HBY := hide (HBr.out.trans (hWY.mono HBr.out.size))
          have hab := alloc_below Y (.cells #[.int .i64 ky, .int .i64 vl] 71 (0, 0))
          have HAB := hide hab
          have HK1 : Hid (j + 1 ≤ maxLen) := by show _ ≤ _; unfold maxLen; omega
          have HK2 : Hid ((j + 1) * 16 ≤ 140737488355328) := by show _ ≤ _; omega
          clear hab hrec hr hrow2 hWY HT HC HBr
          go_region_law (refine step_append_cells rfl (.tmp 39) (.tmp 50) 26 rfl W.heap.size 71 i0 (.agg #[.int .i64 0, .int .i64 0]) 2 16 Tryz.underlying26 hI0 hz0 hz1 hz2 rfl (by decide) (.slice p1 j c1) j _ (by simp [Act.eval]) (ownsRow_later HTY.out HAB.out).drew (.slice (some ⟨Y.heap.size, 0, none⟩) 1 1) 1 [.int .i64 ky, .int .i64 vl] (by simp [Act.eval]) (Seg.news (heap_alloc_new Y _) (by simp [Value.oneCell']) rfl (Nat.le_refl _) (by decide)) HK1.out HK2.out (Nat.le_trans HBY.out.size HAB.out.size) ?_; intro p6 c6 w6 o6 g6)
          all_goals
            have hRY := ownsRow_later HTY.out HAB.out
            have hCA := ownsRow_later HCY.out HAB.out
            have hap : (Value.slice p1 j c1).ownBlock ≠ some g2 := rows_apart HTY.out HCY.out (by decide) rfl
            have hoW : Only (fun i => (Value.slice p1 j c1).ownBlock = some i) Y w6 := (Only.alloc (fun i => (Value.slice p1 j c1).ownBlock = some i) Y _).drew.trans (Only.of_grown g6 (fun k e => e))
            have hC6 : w6.ownsRow W.heap.size 3 1 (.slice (some ⟨g2, 0, none⟩) k c2) k ((countsC k t j).map (Value.int .i64)) := ownsRow_only HCY.out hoW (fun b hb e => by
              have hb' : b = g2 := by simpa [Value.ownBlock] using hb.symm
              exact hap (by rw [← hb']; exact e))
            have hcc6 : w6.cell? ⟨g2, i, none⟩ = some (.int .i64 (ct : Int)) := hoW.cell hcc2 hap
            have hff6 : w6.frozen? ⟨g2, i, none⟩ = false := hC6.frozenAt _
            have hB6 : Below W.heap.size W w6 := HBY.out.trans (hoW.below HBY.out.size (fun i e => own_block_base HTY.out e))
            have hC7 := (hC6.stored i (.int .i64 ((ct : Int) + 1))).1
            rw [← List.map_set, HCN.out] at hC7
            have hg2b := own_block_base HCY.out (b := g2) rfl
            have hT7 : (w6.setCell ⟨g2, i, none⟩ (.int .i64 ((ct : Int) + 1))).ownsRow W.heap.size 71 2 (.slice p6 (j + 1) c6) (j + 1) ((takenC (xs.map SV.rs) t (j + 1)).flatMap RC.cells) := by
              rw [HTN.out, List.flatMap_append]
              exact ownsRow_only o6 (Only.set (F := fun i => i = g2) w6 g2 i _ rfl) (fun b hb e => by
                have e' : b = g2 := e
                rw [e'] at hb
                exact rows_apart o6 hC6 (by decide) rfl hb)
            have HT7 := hide hT7
            have HC7 := hide hC7
            have HB7 : Hid (Below W.heap.size W (w6.setCell ⟨g2, i, none⟩ (.int .i64 ((ct : Int) + 1)))) := hide (hB6.setCell (p := ⟨g2, i, none⟩) hg2b _)
            clear hRY hCA hap hoW hC6 hB6 hC7 hT7 o6 g6 hcc2 hc d0 d1
            by_cases hw : i + 1 = k
            · have HW2 : Hid ((i + 1) % k = 0) := hide (by rw [hw]; exact Nat.mod_self k)
              have qw : (((i : Int) + 1) == (k : Int)) = true := by simpa using (by omega : (i : Int) + 1 = k)
              have qw2 : decide ((i : Int) + 1 = (k : Int)) = true := decide_eq_true (by omega)
              clear hw
              go_wp2
              exact ⟨⟨j + 1, p6, c6, hjN, by rw [HWN.out, HW2.out]; rfl, rfl, HT7, HC7, HB7⟩, by show N - (j + 1) < N - j; omega⟩
            · have HW2 : Hid ((i + 1) % k = i + 1) := hide (Nat.mod_eq_of_lt (by omega))
              have qw : (((i : Int) + 1) == (k : Int)) = false := by simpa using (by omega : ¬ (i : Int) + 1 = k)
              have qw2 : decide ((i : Int) + 1 = (k : Int)) = false := decide_eq_false (by omega)
              go_wp2
              exact ⟨⟨j + 1, p6, c6, hjN, by rw [HWN.out, HW2.out]; rfl, rfl, HT7, HC7, HB7⟩, by show N - (j + 1) < N - j; omega⟩
        · have q4 : decide ((ct : Int) < (rs.length : Int)) = false := decide_eq_false (by omega)
          have q5 : decide (ct < rs.length) = false := decide_eq_false hlong
          have e : j = N := by
            apply Nat.le_antisymm hj
            apply Nat.le_of_not_lt
            intro c
            exact hlong (HLG.out.1 (HN.out.long j c))
          subst e
          have HB2 := hide (fun n => below_drewNR HBr.out n)
          go_wp2_with fail
          go_big_quiet (fail)
          go_wp2_with fail
          refine bodyPost_ret (results_tmp3 rfl _ _ _) rfl ?_
          exact ⟨p1, c1, some ⟨g2, 0, none⟩, c2, by rw [HI.out]; rfl, ownsRow_later HT.out (below_drewNR (Below.refl _ wr) _), ownsRow_later HC.out (below_drewNR (Below.refl _ wr) _), HB2.out _⟩

set_option maxRecDepth 100000 in
set_option maxHeartbeats 8000000 in
theorem rturnsB_any {W : World} {p : Option Addr} {cap n : Nat} {tt : Int} (htt : tt < 0 ∨ (n : Int) ≤ tt) (hb : n ≤ 1048576) (i3 : n ≤ cap) (i4 : cap ≤ 9223372036854775807) :
    Calls Tryz.prog 49 #[.int .i64 tt, .slice p n cap] W fun e w' => ∃ p2 c2, e = .returned (.tuple #[.slice none 0 0, .int .i64 tt, .slice p2 n c2]) ∧ w'.ownsRow W.heap.size 3 1 (.slice p2 n c2) n ((List.replicate n (0 : Int)).map (Value.int .i64)) ∧ Below W.heap.size W w' := by
  obtain ⟨k0, hK0, hy0, hy1, hy2⟩ := info_parts Tryz.infoIntR
  go_enter Tryz.func49, Tryz.ntmps49
  go_wp2_with fail
  go_loopw [8, 9] (fun s i wq => ∃ (k : Nat) (p2 : Option Addr) (c2 : Nat), k ≤ n ∧ i = .int .i64 (k : Int) ∧ s = .slice p2 k c2 ∧ Hid (wq.ownsRow W.heap.size 3 1 (.slice p2 k c2) k ((List.replicate k (0 : Int)).map (Value.int .i64))) ∧ Hid (Below W.heap.size W wq)) (fun _ i _ => n - (intOf i).toNat)
  case atStart => exact ⟨0, none, 0, Nat.zero_le _, rfl, rfl, hide (World.ownsRow_nil _ _ _ _), hide (Below.refl _ _)⟩
  case round =>
    obtain ⟨k, p2, c2, hk, rfl, rfl, HOW, HBq⟩ := hrel
    rename World => wq
    by_cases hlt : k < n
    · have hab := alloc_below wq (.cells #[.int .i64 0] 3 (0, 0))
      have HSG : Hid (Seg (wq.alloc (.cells #[.int .i64 0] 3 (0, 0))) 1 (.slice (some ⟨wq.heap.size, 0, none⟩) 1 1) 1 [.int .i64 0]) := hide (Seg.news (heap_alloc_new wq _) (by simp [Value.oneCell']) rfl (Nat.le_refl _) (by decide))
      have HRW := hide (ownsRow_later HOW.out hab)
      have HAB := hide hab
      have HK1 : Hid (k + 1 ≤ maxLen) := by show _ ≤ _; unfold maxLen; omega
      have HK2 : Hid ((k + 1) * 8 ≤ 140737488355328) := by show _ ≤ _; omega
      have HBS : Hid (W.heap.size ≤ (wq.alloc (.cells #[.int .i64 0] 3 (0, 0))).heap.size) := hide (Nat.le_trans HBq.out.size hab.size)
      clear hab
      go_wp2_with (at_builtin; refine append_cells _ rfl (.tmp 16) (.tmp 17) 88 rfl W.heap.size 3 k0 (.int .i64 0) 1 8 Tryz.underlying88 hK0 hy0 hy1 hy2 rfl (by decide) (.slice p2 k c2) k _ rfl HRW.out (.slice (some ⟨wq.heap.size, 0, none⟩) 1 1) 1 _ rfl HSG.out HK1.out HK2.out HBS.out ?_)
      intro p' c' w5 hown hgrow
      have HB5 : Hid (Below W.heap.size W w5) := hide ((HBq.out.trans (HAB.out.mono HBq.out.size)).grown hgrow (Nat.le_trans HBq.out.size HAB.out.size) (fun i hi => own_block_base HRW.out hi))
      have HO5 : Hid (w5.ownsRow W.heap.size 3 1 (.slice p' (k + 1) c') (k + 1) ((List.replicate (k + 1) (0 : Int)).map (Value.int .i64))) := by
        refine hide ?_
        rw [List.replicate_succ', List.map_append, List.map_replicate]
        exact hown
      clear hown hgrow
      go_wp2
      exact ⟨⟨k + 1, p', c', by omega, by first | rfl | go_num, rfl, HO5, HB5⟩, by simp [intOf]; omega⟩
    · obtain rfl : k = n := by omega
      have HB2 := hide (fun n => below_drewNR HBq.out n)
      by_cases hc : tt < 0
      · have q1 : decide (tt ≥ 0) = false := decide_eq_false (by omega)
        have q2 : decide (0 ≤ tt) = false := decide_eq_false (by omega)
        go_wp2_with fail
        go_loopw [0, 7] (fun i s wr => i = .int .i64 tt ∧ s = .slice none 0 0 ∧ wr = wq) (fun _ _ _ => 0)
        case atStart => exact ⟨rfl, rfl, rfl⟩
        case round =>
          obtain ⟨rfl, rfl, rfl⟩ := hrel
          rename World => wq
          go_wp2_with fail
          go_big_quiet (fail)
          go_wp2_with fail
          refine bodyPost_ret (results_tmp3 rfl _ _ _) rfl ?_
          exact ⟨p2, c2, rfl, ownsRow_later HOW.out (below_drewNR (Below.refl _ wq) _), HB2.out _⟩
      · have q1 : decide (tt ≥ 0) = true := decide_eq_true (by omega)
        have q2 : decide (0 ≤ tt) = true := decide_eq_true (by omega)
        have q3 : decide (tt < (k : Int)) = false := decide_eq_false (by omega)
        go_wp2_with fail
        go_loopw [0, 7] (fun i s wr => i = .int .i64 tt ∧ s = .slice none 0 0 ∧ wr = wq) (fun _ _ _ => 0)
        case atStart => exact ⟨rfl, rfl, rfl⟩
        case round =>
          obtain ⟨rfl, rfl, rfl⟩ := hrel
          rename World => wq
          go_wp2_with fail
          go_big_quiet (fail)
          go_wp2_with fail
          refine bodyPost_ret (results_tmp3 rfl _ _ _) rfl ?_
          exact ⟨p2, c2, rfl, ownsRow_later HOW.out (below_drewNR (Below.refl _ wq) _), HB2.out _⟩
end Go.Proofs.YtifldnpccgbnkaaGreat
